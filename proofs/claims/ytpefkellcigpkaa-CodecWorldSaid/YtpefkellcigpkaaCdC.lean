/- codec: a number behind a buffer; a text. -/
import Derived.Test.YtpefkellcigpkaaCdA
import Derived.Deep.MidRow
import Derived.Shelf.Abstract
import Derived.Test.YtpefkellcigpkaaCdW
namespace Go.Proofs.Ytpefkellcigpkaa.Cd
open Go.RowKit Go.Proofs.Ytpefkellcigpkaa
set_option maxRecDepth 100000

structure NumR (N : Nat → Prop) (w0 : World) (bs : List UInt8) (U S : Nat) (v i : Value) (wr : World) : Prop where
  ex : ∃ j : Nat, j ≤ S ∧ i = .int .i64 (j : Int) ∧ ∃ a n c, v = .slice a n c ∧ Out N w0 wr (.slice a n c) (bs ++ UInt8.ofNat (247 + S) :: be (S - j) (U / 256 ^ j))

theorem NumR.step {N : Nat → Prop} {w0 wr : World} {bs : List UInt8} {U S m : Nat} {v : Value} (hm : m + 1 ≤ S) {c : UInt8} (hc : c = UInt8.ofNat (U / 256 ^ m % 256)) (h : Out N w0 wr v ((bs ++ UInt8.ofNat (247 + S) :: be (S - (m + 1)) (U / 256 ^ (m + 1))) ++ [c])) :
    NumR N w0 bs U S v (.int .i64 (m : Int)) wr := by
  obtain ⟨a, n, cp, rfl⟩ := h.slice
  refine ⟨m, by omega, rfl, a, n, cp, rfl, ?_⟩
  have e : be (S - m) (U / 256 ^ m) = be (S - (m + 1)) (U / 256 ^ (m + 1)) ++ [c] := by
    rw [show S - m = (S - (m + 1)) + 1 by omega, be_more, hc]
  rw [e]
  simpa using h

theorem shr_byte (U m : Nat) : (U : Int) / 2 ^ (8 * m) % 256 = ((UInt8.ofNat (U / 256 ^ m % 256)).toNat : Int) := by
  have e : (2 : Int) ^ (8 * m) = ((256 ^ m : Nat) : Int) := by
    rw [show (256 : Nat) = 2 ^ 8 from rfl, ← Nat.pow_mul, Int.natCast_pow]; rfl
  rw [ofNat_small (by omega), e]
  omega

theorem putNumber_any {N : Nat → Prop} {w0 w : World} {v : Value} {bs : List UInt8} (h : Out N w0 w v bs) {n : Int} (hn : okN n) (hl : bs.length + (encN n).length ≤ lim) :
    Calls Try.prog 21 #[v, .int .i64 n] w (Puts N w0 (bs ++ encN n)) := by
  have H := Lib.hid h
  have HT := Lib.hid (twisted_any hn w)
  have hlt := twist_lt hn
  have hE : encN n = if twist n < 248 then [UInt8.ofNat (twist n)] else UInt8.ofNat (247 + sizeB (twist n)) :: be (sizeB (twist n)) (twist n) := rfl
  rw [hE] at hl ⊢
  clear hE hn
  generalize twist n = U at *
  obtain ⟨ab, nb, cap, rfl⟩ := h.slice
  clear h
  by_cases hs : U < 248
  · rw [if_pos hs] at hl ⊢
    have HL2 := Lib.hid hl
    clear hl
    have hsi : (U : Int) < 248 := by omega
    have HB := Lib.hid (byte_of (show U < 256 by omega) rfl)
    clear hs
    go_enter Try.func21, Try.ntmps21
    go_wp2_with fail
    refine HT.out.mono ?_
    rintro e w2 ⟨rfl, rfl⟩
    go_wp2_with (refine wpList_append_out rfl (.tmp 11) (.tmp 14) rfl rfl (H.out.alloc _) rfl (one_src (UInt8.ofNat U) HB.out _ rfl) HL2.out ?_; intro v' w' h'; obtain ⟨a2, n2, c2, rfl⟩ := h'.slice; have H2 := Lib.hid h'; clear h')
    go_ret
    exact H2.out.puts
  · rw [if_neg hs] at hl ⊢
    rw [List.length_cons, be_length] at hl
    have HL := Lib.hid hl
    clear hl
    have hsi : 248 ≤ (U : Int) := by omega
    have hU : (U : Int) ≤ 18446744073709551615 := by omega
    have h8 := sizeB_le U
    have h1 := sizeB_pos (u := U) (by omega)
    have HZ := Lib.hid (fun w => size_any U hlt w)
    generalize sizeB U = S at *
    have h8i : (S : Int) ≤ 8 := by omega
    have HB := Lib.hid (byte_of (show 247 + S < 256 by omega) rfl)
    have HL2 : Hid (bs.length + [UInt8.ofNat (247 + S)].length ≤ lim) := Lib.hid (by have := HL.out; simp only [List.length_singleton]; omega)
    have HS := Lib.hid hlt
    have e1 : (247 : Int) + (S : Int) = ((247 + S : Nat) : Int) := by omega
    have HE1 := Lib.hid e1
    clear hs hlt e1
    go_enter Try.func21, Try.ntmps21
    go_wp2_with fail
    refine HT.out.mono ?_
    rintro e w2 ⟨rfl, rfl⟩
    go_wp2_with fail
    refine (HZ.out _).mono ?_
    rintro e w2 ⟨rfl, rfl⟩
    go_wp2_with (refine wpList_append_out rfl (.tmp 18) (.tmp 22) rfl rfl (H.out.alloc _) rfl (one_src (UInt8.ofNat (247 + S)) (by first | exact HB.out | (rw [HE1.out]; exact HB.out)) _ rfl) HL2.out ?_; intro v' w' h'; obtain ⟨a2, n2, c2, rfl⟩ := h'.slice; have H2 := Lib.hid h'; clear h')
    go_loopw [0, 6] (fun v i wr => NumR N w0 bs U S v i wr) (fun _ i _ => (intOf i).toNat)
    case atStart => 
      refine ⟨S, by omega, rfl, a2, n2, c2, rfl, ?_⟩
      have h9 := H2.out
      rwa [show S - S = 0 by omega]
    case round =>
      obtain ⟨j, hj, rfl, a3, n3, c3, rfl, hO⟩ := hrel.ex
      clear hrel
      have HO := Lib.hid hO
      clear hO
      by_cases h0 : j = 0
      · subst h0
        go_wp2
        go_ret
        have h9 := HO.out.puts
        simpa using h9
      · obtain ⟨m, rfl⟩ : ∃ m, j = m + 1 := ⟨j - 1, by omega⟩
        have hm8 : (m : Int) ≤ 7 := by omega
        have hB := Lib.hid (shr_byte U m)
        have HL3 : Hid ((bs ++ UInt8.ofNat (247 + S) :: be (S - (m + 1)) (U / 256 ^ (m + 1))).length + [UInt8.ofNat (U / 256 ^ m % 256)].length ≤ lim) := Lib.hid (by
          have := HL.out; simp only [List.length_append, List.length_cons, be_length, List.length_nil]; omega)
        have HJ := Lib.hid hj
        clear h0
        go_wp2_with (refine wpList_append_out rfl (.tmp 28) (.tmp 34) rfl rfl (HO.out.alloc _) rfl (one_src (UInt8.ofNat (U / 256 ^ m % 256)) hB.out _ rfl) HL3.out ?_; intro v' w' h'; obtain ⟨a4, n4, c4, rfl⟩ := h'.slice; have H4 := Lib.hid h'; clear h')
        go_roundw
        case rel =>
          (repeat apply Exists.intro)
          exact NumR.step HJ.out rfl H4.out
        case measure => simp [intOf]

/-- int, as a number. -/
theorem putInt_any {N : Nat → Prop} {w0 w : World} {v : Value} {bs : List UInt8} (h : Out N w0 w v bs) {n : Int} (hn : okN n) (hl : bs.length + (encN n).length ≤ lim) :
    Calls Try.prog 59 #[v, .int .i64 n] w (Puts N w0 (bs ++ encN n)) := by
  have HP := Lib.hid (putNumber_any h hn hl)
  obtain ⟨h1, h2⟩ := hn
  obtain ⟨ab, nb, cap, rfl⟩ := h.slice
  clear h
  go_enter Try.func59, Try.ntmps59
  go_wp2_with fail
  refine HP.out.mono ?_
  rintro e w2 ⟨a, n2, c, rfl, h⟩
  have H := Lib.hid h
  clear h
  go_wp2
  go_ret
  exact H.out.puts

theorem putText_any {N : Nat → Prop} {w0 w : World} {v : Value} {bs : List UInt8} (h : Out N w0 w v bs) (s : ByteArray) (hs : s.size < 2147483648) (hl : bs.length + (cT.enc s).length ≤ lim) :
    Calls Try.prog 60 #[v, .string s] w (Puts N w0 (bs ++ cT.enc s)) := by
  have e : cT.enc s = encL s.size ++ s.data.toList := rfl
  rw [e, List.length_append] at hl
  rw [e, ← List.append_assoc]
  clear e
  have HP := Lib.hid (putLength_any h s.size hs (by omega))
  have HL : Hid ((bs ++ encL s.size).length + s.data.toList.length ≤ lim) := Lib.hid (by rw [List.length_append]; omega)
  have hsz : (s.size : Int) ≤ 2147483647 := by omega
  have HS := Lib.hid (fun w => Src.ofString (P := Try.prog) w Try.underlying9 s)
  have eb : byteCells s = bcells s.data.toList := rfl
  rw [eb] at HS
  obtain ⟨ab, nb, cap, rfl⟩ := h.slice
  clear h eb hs hl
  generalize encL s.size = es at *
  generalize s.data.toList = ds at *
  go_enter Try.func60, Try.ntmps60
  go_wp2_with fail
  refine HP.out.mono ?_
  rintro e w2 ⟨a, n2, c, rfl, h⟩
  have H := Lib.hid h
  clear h
  go_wp2_with (refine wpList_append_out rfl (.tmp 8) (.tmp 9) rfl rfl H.out rfl (HS.out _) HL.out ?_; intro v' w' h'; obtain ⟨a4, n4, c4, rfl⟩ := h'.slice; have H4 := Lib.hid h'; clear h')
  go_ret
  exact H4.out.puts

end Go.Proofs.Ytpefkellcigpkaa.Cd
/- codec: rows of things in memory, what they are as bytes. -/
namespace Go.Proofs.Ytpefkellcigpkaa.Cd
open Go.RowKit Go.Proofs.Ytpefkellcigpkaa
set_option maxRecDepth 100000

/-- A kind of things: their bytes, their cells in memory (and what these name lies in blocks of Pb). -/
structure El (M : Type) where
  c : Cod M
  H : (Nat → Prop) → World → M → List Value → Prop
  size : Nat
  keep : ∀ {Pb F : Nat → Prop} {w w' : World} {x : M} {cs : List Value}, Keep F w w' → (∀ g, Pb g → g < w.heap.size → ¬ F g) → H Pb w x cs → H Pb w' x cs
  mono : ∀ {Pb Qb : Nat → Prop} {w : World} {x : M} {cs : List Value}, (∀ g, g < w.heap.size → Pb g → Qb g) → H Pb w x cs → H Qb w x cs
  len : ∀ {Pb : Nat → Prop} {w : World} {x : M} {cs : List Value}, H Pb w x cs → cs.length = size
  one : ∀ {Pb : Nat → Prop} {w : World} {x : M} {cs : List Value}, H Pb w x cs → ∀ u ∈ cs, u.oneCell' = true

/-- The slice v reads as the things l. -/
def LAt {M : Type} (E : El M) (Pb : Nat → Prop) (w : World) (v : Value) (l : List M) : Prop :=
  ∃ a cap, v = .slice a l.length cap ∧ l.length ≤ cap ∧ cap ≤ maxLen ∧ (l = [] ∨ ∃ g off, a = some ⟨g, off, none⟩ ∧ g < w.heap.size ∧ Pb g ∧ ∀ (i : Nat) (x : M), l[i]? = some x → ∃ cs, E.H Pb w x cs ∧ w.rangeAt g (off + i * E.size) cs)

theorem rangeAt_keep {F : Nat → Prop} {w w' : World} {g o : Nat} {cs : List Value} (h : w.rangeAt g o cs) (k : Keep F w w') (hg : g < w.heap.size) (hF : ¬ F g) : w'.rangeAt g o cs :=
  fun j v hv => by rw [k.cell hg hF]; exact h j v hv

section
variable {M : Type} {E : El M} {Pb Qb F : Nat → Prop} {w w' : World} {v : Value} {l : List M}
theorem LAt.keep (h : LAt E Pb w v l) (k : Keep F w w') (hF : ∀ g, Pb g → g < w.heap.size → ¬ F g) : LAt E Pb w' v l := by
  obtain ⟨a, cap, hv, h1, h2, h3⟩ := h
  refine ⟨a, cap, hv, h1, h2, ?_⟩
  rcases h3 with h3 | ⟨g, off, ha, hg, hp, hc⟩
  · exact .inl h3
  · refine .inr ⟨g, off, ha, Nat.lt_of_lt_of_le hg k.size, hp, fun i x hi => ?_⟩
    obtain ⟨cs, hH, hr⟩ := hc i x hi
    exact ⟨cs, E.keep k hF hH, rangeAt_keep hr k hg (hF g hp hg)⟩
theorem LAt.mono (h : LAt E Pb w v l) (hq : ∀ g, g < w.heap.size → Pb g → Qb g) : LAt E Qb w v l := by
  obtain ⟨a, cap, hv, h1, h2, h3⟩ := h
  refine ⟨a, cap, hv, h1, h2, ?_⟩
  rcases h3 with h3 | ⟨g, off, ha, hg, hp, hc⟩
  · exact .inl h3
  · refine .inr ⟨g, off, ha, hg, hq g hg hp, fun i x hi => ?_⟩
    obtain ⟨cs, hH, hr⟩ := hc i x hi
    exact ⟨cs, E.mono hq hH, hr⟩
theorem LAt.slice (h : LAt E Pb w v l) : ∃ a cap, v = .slice a l.length cap ∧ (l.length : Int) ≤ 9223372036854775807 := by
  obtain ⟨a, cap, hv, h1, h2, _⟩ := h
  exact ⟨a, cap, hv, by unfold maxLen at h2; omega⟩
theorem LAt.get {n cap : Nat} {a : Option Addr} (h : LAt E Pb w (.slice a n cap) l) (i : Nat) (x : M) (hi : l[i]? = some x) : ∃ g off cs, a = some ⟨g, off, none⟩ ∧ g < w.heap.size ∧ Pb g ∧ E.H Pb w x cs ∧ w.rangeAt g (off + i * E.size) cs := by
  obtain ⟨a', cap', hv, h1, h2, h3⟩ := h
  simp only [Value.slice.injEq] at hv
  obtain ⟨rfl, _, rfl⟩ := hv
  rcases h3 with h3 | ⟨g, off, ha, hg, hp, hc⟩
  · subst h3; simp at hi
  · obtain ⟨cs, hH, hr⟩ := hc i x hi
    exact ⟨g, off, cs, ha, hg, hp, hH, hr⟩
end
theorem LAt.nil {M : Type} {E : El M} {Pb : Nat → Prop} {w : World} : LAt E Pb w (.slice none 0 0) ([] : List M) := ⟨none, 0, rfl, Nat.le_refl _, by simp [maxLen], .inl rfl⟩

def cThing : Cod (Int × Int × Int × Int × ByteArray) := pair cN (pair cN (pair cN (pair cN cT)))
def cMob : Cod (Int × Int × Int × Int) := pair cN (pair cN (pair cN cN))
def cTill : Cod (Int × Int) := pair cN cN
def cLot : Cod (Int × Int × ByteArray × Int × Int × ByteArray × Int) := pair cN (pair cN (pair cT (pair cN (pair cN (pair cT cN)))))
def cHouse : Cod (Int × ByteArray × List ByteArray × Int) := pair cN (pair cT (pair (cList cT) cN))
def cChar : Cod (ByteArray × ByteArray × Bool × Int × Int × Int × Int × Int × Int × List Int) := pair cT (pair cT (pair cB (pair cN (pair cN (pair cN (pair cN (pair cN (pair cN (cList cN)))))))))

def eI : El Int := ⟨cN, fun _ _ n cs => cs = [.int .i64 n], 1, fun _ _ h => h, fun _ h => h, fun h => by rw [h]; rfl, fun h => by rw [h]; simp [Value.oneCell']⟩
def eS : El ByteArray := ⟨cT, fun _ _ s cs => cs = [.string s], 1, fun _ _ h => h, fun _ h => h, fun h => by rw [h]; rfl, fun h => by rw [h]; simp [Value.oneCell']⟩
def eThing : El (Int × Int × Int × Int × ByteArray) where
  c := cThing
  H _ _ x cs := cs = [.int .i64 x.1, .int .i64 x.2.1, .int .i64 x.2.2.1, .int .i64 x.2.2.2.1, .string x.2.2.2.2]
  size := 5
  keep _ _ h := h
  mono _ h := h
  len h := by rw [h]; rfl
  one h := by rw [h]; simp [Value.oneCell']
def eMob : El (Int × Int × Int × Int) where
  c := cMob
  H _ _ x cs := cs = [.int .i64 x.1, .int .i64 x.2.1, .int .i64 x.2.2.1, .int .i64 x.2.2.2]
  size := 4
  keep _ _ h := h
  mono _ h := h
  len h := by rw [h]; rfl
  one h := by rw [h]; simp [Value.oneCell']
def eTill : El (Int × Int) where
  c := cTill
  H _ _ x cs := cs = [.int .i64 x.1, .int .i64 x.2]
  size := 2
  keep _ _ h := h
  mono _ h := h
  len h := by rw [h]; rfl
  one h := by rw [h]; simp [Value.oneCell']
def eLot : El (Int × Int × ByteArray × Int × Int × ByteArray × Int) where
  c := cLot
  H _ _ x cs := cs = [.int .i64 x.1, .int .i64 x.2.1, .string x.2.2.1, .int .i64 x.2.2.2.1, .int .i64 x.2.2.2.2.1, .string x.2.2.2.2.2.1, .int .i64 x.2.2.2.2.2.2]
  size := 7
  keep _ _ h := h
  mono _ h := h
  len h := by rw [h]; rfl
  one h := by rw [h]; simp [Value.oneCell']
theorem LAt.one {M : Type} {E : El M} {Pb : Nat → Prop} {w : World} {v : Value} {l : List M} (h : LAt E Pb w v l) : v.oneCell' = true := by
  obtain ⟨_, _, rfl, _⟩ := h; rfl
def eHouse : El (Int × ByteArray × List ByteArray × Int) where
  c := cHouse
  H Pb w x cs := ∃ gv, LAt eS Pb w gv x.2.2.1 ∧ cs = [.int .i64 x.1, .string x.2.1, gv, .int .i64 x.2.2.2]
  size := 4
  keep k hF := fun ⟨gv, h1, h2⟩ => ⟨gv, h1.keep k hF, h2⟩
  mono hq := fun ⟨gv, h1, h2⟩ => ⟨gv, h1.mono hq, h2⟩
  len := fun ⟨gv, _, h2⟩ => by rw [h2]; rfl
  one := fun ⟨gv, h1, h2⟩ => by rw [h2]; simp [Value.oneCell']; exact h1.one
def eChar : El (ByteArray × ByteArray × Bool × Int × Int × Int × Int × Int × Int × List Int) where
  c := cChar
  H Pb w x cs := ∃ dv, LAt eI Pb w dv x.2.2.2.2.2.2.2.2.2 ∧ cs = [.string x.1, .string x.2.1, .bool x.2.2.1, .int .i64 x.2.2.2.1, .int .i64 x.2.2.2.2.1, .int .i64 x.2.2.2.2.2.1, .int .i64 x.2.2.2.2.2.2.1, .int .i64 x.2.2.2.2.2.2.2.1, .int .i64 x.2.2.2.2.2.2.2.2.1, dv]
  size := 10
  keep k hF := fun ⟨gv, h1, h2⟩ => ⟨gv, h1.keep k hF, h2⟩
  mono hq := fun ⟨gv, h1, h2⟩ => ⟨gv, h1.mono hq, h2⟩
  len := fun ⟨gv, _, h2⟩ => by rw [h2]; rfl
  one := fun ⟨gv, h1, h2⟩ => by rw [h2]; simp [Value.oneCell']; exact h1.one

/-- What a put of a kind does. -/
def PutE {M : Type} (fn : FuncId) (E : El M) (val : List Value → Value) : Prop :=
  ∀ {N : Nat → Prop} {w0 w : World} {v : Value} {bs : List UInt8}, Out N w0 w v bs → ∀ {Pb : Nat → Prop}, (∀ g, Pb g → g < w.heap.size ∧ v.ownBlock ≠ some g) → ∀ {x : M} {cs : List Value}, E.H Pb w x cs → E.c.ok x → bs.length + (E.c.enc x).length ≤ lim →
    Calls Try.prog fn #[v, val cs] w (Puts N w0 (bs ++ E.c.enc x))

def scalar (cs : List Value) : Value := cs.getD 0 undef
def struct_ (cs : List Value) : Value := .agg cs.toArray

theorem putInt_e : PutE 59 eI scalar := by
  intro N w0 w v bs h Pb _ x cs hx hok hl
  have e : cs = [.int .i64 x] := hx
  subst e
  exact putInt_any h hok hl
theorem putText_e : PutE 60 eS scalar := by
  intro N w0 w v bs h Pb _ x cs hx hok hl
  have e : cs = [.string x] := hx
  subst e
  exact putText_any h x hok hl

end Go.Proofs.Ytpefkellcigpkaa.Cd
/- codec: lists of numbers and texts behind a buffer. -/
namespace Go.Proofs.Ytpefkellcigpkaa.Cd
open Go.RowKit Go.Proofs.Ytpefkellcigpkaa
set_option maxRecDepth 100000

/-- The list's loop: i things are behind the buffer. -/
structure LisR {M : Type} (E : El M) (w : World) (v0 : Value) (bs : List UInt8) (l : List M) (v i : Value) (wr : World) : Prop where
  ex : ∃ k : Nat, k ≤ l.length ∧ i = .int .i64 (k : Int) ∧ ∃ a n c, v = .slice a n c ∧ Out (own v0) w wr (.slice a n c) (bs ++ (l.take k).flatMap E.c.enc)

theorem LisR.step {M : Type} {E : El M} {w wr : World} {v0 v : Value} {bs : List UInt8} {l : List M} {k : Nat} {x : M} (hx : l[k]? = some x) (h : Out (own v0) w wr v ((bs ++ (l.take k).flatMap E.c.enc) ++ E.c.enc x)) : LisR E w v0 bs l v (.int .i64 ((k : Int) + 1)) wr := by
  obtain ⟨a, n, c, rfl⟩ := h.slice
  obtain ⟨hk, hx2⟩ := List.getElem?_eq_some_iff.1 hx
  refine ⟨k + 1, by omega, by rw [Int.natCast_add]; rfl, a, n, c, rfl, ?_⟩
  rw [List.take_succ_eq_append_getElem hk, hx2, List.flatMap_append]
  simpa using h

theorem list_len {M : Type} {E : El M} {l : List M} {k : Nat} {x : M} (hx : l[k]? = some x) : ((l.take k).flatMap E.c.enc).length + (E.c.enc x).length ≤ (l.flatMap E.c.enc).length := by
  obtain ⟨hk, hx2⟩ := List.getElem?_eq_some_iff.1 hx
  have e : l = l.take k ++ [x] ++ l.drop (k + 1) := by
    rw [← hx2, ← List.take_succ_eq_append_getElem hk, List.take_append_drop]
  have h2 : l.flatMap E.c.enc = (l.take k).flatMap E.c.enc ++ E.c.enc x ++ (l.drop (k + 1)).flatMap E.c.enc := by
    conv => lhs; rw [e]
    rw [List.flatMap_append, List.flatMap_append]; simp
  rw [h2]; simp only [List.length_append]; omega

/-- What a list names is no block of the buffer's. -/
theorem Out.apart {w wr : World} {v0 v : Value} {bs : List UInt8} (h : Out (own v0) w wr v bs) {Pb : Nat → Prop} (hP : ∀ g, Pb g → g < w.heap.size ∧ v0.ownBlock ≠ some g) : ∀ g, Pb g → g < wr.heap.size ∧ v.ownBlock ≠ some g := by
  intro g hg
  obtain ⟨h1, h2⟩ := hP g hg
  refine ⟨Nat.lt_of_lt_of_le h1 h.keep.size, fun e => ?_⟩
  rcases h.new g e with e1 | e1
  · exact h2 e1
  · omega
theorem Out.laid {M : Type} {E : El M} {w wr : World} {v0 v lv : Value} {bs : List UInt8} {l : List M} (h : Out (own v0) w wr v bs) {Pb : Nat → Prop} (hP : ∀ g, Pb g → g < w.heap.size ∧ v0.ownBlock ≠ some g) (hL : LAt E Pb w lv l) : LAt E Pb wr lv l :=
  hL.keep h.keep (fun g hg _ => (hP g hg).2)

theorem Try.enPutInt : ∀ args w, (callFunc 59 args).run Try.prog w = .ok (.enter 59 args) w := enters_of Try.func59 (by kernel_rfl) rfl

theorem putListInt_any {N : Nat → Prop} {w0 w : World} {v : Value} {bs : List UInt8} (h : Out N w0 w v bs) {Pb : Nat → Prop} (hP : ∀ g, Pb g → g < w.heap.size ∧ v.ownBlock ≠ some g) {lv : Value} {l : List Int} (hL : LAt eI Pb w lv l)
    (hok : (cList eI.c).ok l) (hl : bs.length + ((cList eI.c).enc l).length ≤ lim) : Calls Try.prog 61 #[v, lv, .func (.func 59) #[] #[]] w (Puts N w0 (bs ++ (cList eI.c).enc l)) := by
  have e : (cList eI.c).enc l = encL l.length ++ l.flatMap eI.c.enc := rfl
  rw [e, List.length_append] at hl
  rw [e, ← List.append_assoc]
  clear e
  have HB := Lib.hid h
  have HQ := Lib.hid (putLength_any h.here l.length hok.1 (by omega))
  have HO := Lib.hid hok.2
  have HPP := Lib.hid hP
  have HLA := Lib.hid hL
  have HLL := Lib.hid hl
  obtain ⟨al, cl, rfl, _⟩ := hL.slice
  obtain ⟨ab, nb, cb, rfl⟩ := h.slice
  obtain ⟨n, hn⟩ : ∃ n, n = l.length := ⟨_, rfl⟩
  have HN := Lib.hid hn
  have hn1 : (n : Int) ≤ 2147483647 := by have := hok.1; omega
  rw [← hn] at HQ HLA HLL ⊢
  clear h hl hok hP hL hn
  go_enter Try.func61, Try.ntmps61
  go_wp2_with fail
  refine HQ.out.mono ?_
  rintro e w2 ⟨a2, n2, c2, rfl, h2⟩
  have H2 := Lib.hid h2
  clear h2
  go_wp2_with fail
  go_loopw [0, 15] (fun v i wr => LisR eI w (.slice ab nb cb) (bs ++ encL n) l v i wr) (fun _ i _ => n - (intOf i).toNat)
  case atStart => exact ⟨0, by omega, rfl, _, _, _, rfl, by simpa using H2.out⟩
  case round =>
    obtain ⟨k, hk, rfl, a3, n3, c3, rfl, h3⟩ := hrel.ex
    clear hrel
    have H3 := Lib.hid h3
    clear h3
    rw [← HN.out] at hk
    by_cases hlt : k < n
    · have hlt1 : (k : Int) < (n : Int) := by omega
      obtain ⟨x, hx⟩ : ∃ x, l[k]? = some x := ⟨_, List.getElem?_eq_getElem (by have := HN.out; omega)⟩
      obtain ⟨g, off, cs, rfl, _, _, hH, hr⟩ := (H3.out.laid HPP.out HLA.out).get k x hx
      have HLI := Lib.hid (list_len (E := eI) hx)
      have HC := Lib.hid (putInt_e H3.out (H3.out.apart HPP.out) hH (HO.out x (List.mem_of_getElem? hx)) (by rw [List.length_append, List.length_append]; have := HLI.out; have := HLL.out; omega))
      have e : cs = [.int .i64 x] := hH
      subst e
      have c0 : wr.cell? ⟨g, off + k, none⟩ = some (.int .i64 x) := by have := hr 0 _ rfl; simpa [eI] using this
      have hen := Try.enPutInt
      have HX := Lib.hid hx
      clear hH hr hx
      go_wp2_with fail
      refine HC.out.mono ?_
      rintro e w4 ⟨a4, n4, c4, rfl, h4⟩
      have H4 := Lib.hid h4
      clear h4
      go_wp2_with fail
      go_roundw
      case rel =>
        (repeat apply Exists.intro)
        exact LisR.step HX.out H4.out
      case measure => simp [intOf]; omega
    · obtain rfl : k = n := by omega
      go_wp2
      go_ret
      have h9 := H3.out
      rw [show l.take k = l from List.take_of_length_le (by have := HN.out; omega)] at h9
      exact (HB.out.trans (Keep.refl _ _) h9).puts

theorem Try.enPutText : ∀ args w, (callFunc 60 args).run Try.prog w = .ok (.enter 60 args) w := enters_of Try.func60 (by kernel_rfl) rfl

theorem putListText_any {N : Nat → Prop} {w0 w : World} {v : Value} {bs : List UInt8} (h : Out N w0 w v bs) {Pb : Nat → Prop} (hP : ∀ g, Pb g → g < w.heap.size ∧ v.ownBlock ≠ some g) {lv : Value} {l : List ByteArray} (hL : LAt eS Pb w lv l)
    (hok : (cList eS.c).ok l) (hl : bs.length + ((cList eS.c).enc l).length ≤ lim) : Calls Try.prog 72 #[v, lv, .func (.func 60) #[] #[]] w (Puts N w0 (bs ++ (cList eS.c).enc l)) := by
  have e : (cList eS.c).enc l = encL l.length ++ l.flatMap eS.c.enc := rfl
  rw [e, List.length_append] at hl
  rw [e, ← List.append_assoc]
  clear e
  have HB := Lib.hid h
  have HQ := Lib.hid (putLength_any h.here l.length hok.1 (by omega))
  have HO := Lib.hid hok.2
  have HPP := Lib.hid hP
  have HLA := Lib.hid hL
  have HLL := Lib.hid hl
  obtain ⟨al, cl, rfl, _⟩ := hL.slice
  obtain ⟨ab, nb, cb, rfl⟩ := h.slice
  obtain ⟨n, hn⟩ : ∃ n, n = l.length := ⟨_, rfl⟩
  have HN := Lib.hid hn
  have hn1 : (n : Int) ≤ 2147483647 := by have := hok.1; omega
  rw [← hn] at HQ HLA HLL ⊢
  clear h hl hok hP hL hn
  go_enter Try.func72, Try.ntmps72
  go_wp2_with fail
  refine HQ.out.mono ?_
  rintro e w2 ⟨a2, n2, c2, rfl, h2⟩
  have H2 := Lib.hid h2
  clear h2
  go_wp2_with fail
  go_loopw [0, 15] (fun v i wr => LisR eS w (.slice ab nb cb) (bs ++ encL n) l v i wr) (fun _ i _ => n - (intOf i).toNat)
  case atStart => exact ⟨0, by omega, rfl, _, _, _, rfl, by simpa using H2.out⟩
  case round =>
    obtain ⟨k, hk, rfl, a3, n3, c3, rfl, h3⟩ := hrel.ex
    clear hrel
    have H3 := Lib.hid h3
    clear h3
    rw [← HN.out] at hk
    by_cases hlt : k < n
    · have hlt1 : (k : Int) < (n : Int) := by omega
      obtain ⟨x, hx⟩ : ∃ x, l[k]? = some x := ⟨_, List.getElem?_eq_getElem (by have := HN.out; omega)⟩
      obtain ⟨g, off, cs, rfl, _, _, hH, hr⟩ := (H3.out.laid HPP.out HLA.out).get k x hx
      have HLI := Lib.hid (list_len (E := eS) hx)
      have HC := Lib.hid (putText_e H3.out (H3.out.apart HPP.out) hH (HO.out x (List.mem_of_getElem? hx)) (by rw [List.length_append, List.length_append]; have := HLI.out; have := HLL.out; omega))
      have e : cs = [.string x] := hH
      subst e
      have c0 : wr.cell? ⟨g, off + k, none⟩ = some (.string x) := by have := hr 0 _ rfl; simpa [eS] using this
      have hen := Try.enPutText
      have HX := Lib.hid hx
      clear hH hr hx
      go_wp2_with fail
      refine HC.out.mono ?_
      rintro e w4 ⟨a4, n4, c4, rfl, h4⟩
      have H4 := Lib.hid h4
      clear h4
      go_wp2_with fail
      go_roundw
      case rel =>
        (repeat apply Exists.intro)
        exact LisR.step HX.out H4.out
      case measure => simp [intOf]; omega
    · obtain rfl : k = n := by omega
      go_wp2
      go_ret
      have h9 := H3.out
      rw [show l.take k = l from List.take_of_length_le (by have := HN.out; omega)] at h9
      exact (HB.out.trans (Keep.refl _ _) h9).puts

end Go.Proofs.Ytpefkellcigpkaa.Cd
/- codec: things behind a buffer. -/
namespace Go.Proofs.Ytpefkellcigpkaa.Cd
open Go.RowKit Go.Proofs.Ytpefkellcigpkaa
set_option maxRecDepth 100000

theorem Try.infoThing : (Try.prog.info? 61).map (·.size) = some 5 := by kernel_rfl
theorem Try.infoMob : (Try.prog.info? 54).map (·.size) = some 4 := by kernel_rfl
theorem Try.infoTill : (Try.prog.info? 81).map (·.size) = some 2 := by kernel_rfl
theorem Try.infoLot : (Try.prog.info? 67).map (·.size) = some 7 := by kernel_rfl
theorem Try.infoHouse : (Try.prog.info? 65).map (·.size) = some 4 := by kernel_rfl
theorem Try.infoChar : (Try.prog.info? 58).map (·.size) = some 10 := by kernel_rfl

theorem Out.box {N : Nat → Prop} {w0 w wi : World} {v vi : Value} {bs bsi : List UInt8} {C : Array Value} {t : TypeId} (h0 : Out N w0 w v bs) (h : Out (own v) (w.alloc (.cells C t)) wi vi bsi) (j : Nat) {u : Value} (hu : C[j]? = some u) : wi.cell? ⟨w.heap.size, j, none⟩ = some u := by
  have h1 : wi.heap[w.heap.size]? = some (.cells C t (0, 0)) := (h.keep.block _ (by rw [World.size_alloc]; omega) (fun e => by have := h0.lt e; omega)).trans (heap_alloc_new w _)
  rw [cell_of_row _ _ _ _ _ _ h1]; exact hu

/-- What a struct names, behind puts of its fields. -/
theorem Out.within {M : Type} {E : El M} {N Pb : Nat → Prop} {w0 w wi : World} {v vi lv : Value} {bs bsi : List UInt8} {o : Obj} {l : List M} (_ : Out N w0 w v bs) (h : Out (own v) (w.alloc o) wi vi bsi) (hP : ∀ g, Pb g → g < w.heap.size ∧ v.ownBlock ≠ some g) (hL : LAt E Pb w lv l) :
    (∀ g, Pb g → g < wi.heap.size ∧ vi.ownBlock ≠ some g) ∧ LAt E Pb wi lv l := by
  have hP1 : ∀ g, Pb g → g < (w.alloc o).heap.size ∧ v.ownBlock ≠ some g := fun g hg => ⟨by rw [World.size_alloc]; have := (hP g hg).1; omega, (hP g hg).2⟩
  exact ⟨h.apart hP1, h.laid hP1 (hL.keep ((Keep.refl (fun _ => False) w).alloc o) (fun _ _ _ h => h))⟩

end Go.Proofs.Ytpefkellcigpkaa.Cd
