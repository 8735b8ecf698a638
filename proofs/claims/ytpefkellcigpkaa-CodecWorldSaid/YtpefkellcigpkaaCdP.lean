/- codec: worlds and events as bytes. -/
import Derived.Test.YtpefkellcigpkaaCdLs
namespace Go.Proofs.Ytpefkellcigpkaa.Cd
open Go.RowKit Go.Proofs.Ytpefkellcigpkaa
set_option maxRecDepth 100000

abbrev MWorld := Int × Int × Int × List (ByteArray × ByteArray × Bool × Int × Int × Int × Int × Int × Int × List Int) × List (Int × Int × Int × Int × ByteArray) × List (Int × Int × Int × Int) × List (Int × ByteArray × List ByteArray × Int) × List (Int × Int × ByteArray × Int × Int × ByteArray × Int) × List (Int × Int)
abbrev MEvent := Int × ByteArray × ByteArray × List Int
def cWorld : Cod MWorld := pair cN (pair cN (pair cN (pair (cList cChar) (pair (cList cThing) (pair (cList cMob) (pair (cList cHouse) (pair (cList cLot) (cList cTill))))))))
def cEvent : Cod MEvent := pair cN (pair cT (pair cT (cList cN)))

def eWorld : El MWorld where
  c := cWorld
  H Pb w x cs := ∃ v1 v2 v3 v4 v5 v6, LAt eChar Pb w v1 x.2.2.2.1 ∧ LAt eThing Pb w v2 x.2.2.2.2.1 ∧ LAt eMob Pb w v3 x.2.2.2.2.2.1 ∧ LAt eHouse Pb w v4 x.2.2.2.2.2.2.1 ∧ LAt eLot Pb w v5 x.2.2.2.2.2.2.2.1 ∧ LAt eTill Pb w v6 x.2.2.2.2.2.2.2.2 ∧
    cs = [.int .i64 x.1, .int .i64 x.2.1, .int .i64 x.2.2.1, v1, v2, v3, v4, v5, v6]
  size := 9
  keep k hF := fun ⟨v1, v2, v3, v4, v5, v6, h1, h2, h3, h4, h5, h6, h7⟩ => ⟨v1, v2, v3, v4, v5, v6, h1.keep k hF, h2.keep k hF, h3.keep k hF, h4.keep k hF, h5.keep k hF, h6.keep k hF, h7⟩
  mono hq := fun ⟨v1, v2, v3, v4, v5, v6, h1, h2, h3, h4, h5, h6, h7⟩ => ⟨v1, v2, v3, v4, v5, v6, h1.mono hq, h2.mono hq, h3.mono hq, h4.mono hq, h5.mono hq, h6.mono hq, h7⟩
  len := fun ⟨_, _, _, _, _, _, _, _, _, _, _, _, h⟩ => by rw [h]; rfl
  one := fun ⟨v1, v2, v3, v4, v5, v6, h1, h2, h3, h4, h5, h6, h7⟩ => by rw [h7]; simp [Value.oneCell']; exact ⟨h1.one, h2.one, h3.one, h4.one, h5.one, h6.one⟩
def eEvent : El MEvent where
  c := cEvent
  H Pb w x cs := ∃ dv, LAt eI Pb w dv x.2.2.2 ∧ cs = [.int .i64 x.1, .string x.2.1, .string x.2.2.1, dv]
  size := 4
  keep k hF := fun ⟨gv, h1, h2⟩ => ⟨gv, h1.keep k hF, h2⟩
  mono hq := fun ⟨gv, h1, h2⟩ => ⟨gv, h1.mono hq, h2⟩
  len := fun ⟨gv, _, h2⟩ => by rw [h2]; rfl
  one := fun ⟨gv, h1, h2⟩ => by rw [h2]; simp [Value.oneCell']; exact h1.one

/-- p points to the thing x. -/
def PAt {M : Type} (E : El M) (Pb : Nat → Prop) (w : World) (p : Value) (x : M) : Prop :=
  ∃ g o cs, p = .pointer (some ⟨g, o, none⟩) ∧ g < w.heap.size ∧ Pb g ∧ E.H Pb w x cs ∧ w.rangeAt g o cs
theorem PAt.keep {M : Type} {E : El M} {Pb F : Nat → Prop} {w w' : World} {p : Value} {x : M} (h : PAt E Pb w p x) (k : Keep F w w') (hF : ∀ g, Pb g → g < w.heap.size → ¬ F g) : PAt E Pb w' p x := by
  obtain ⟨g, o, cs, hp, hg, hb, hH, hr⟩ := h
  exact ⟨g, o, cs, hp, Nat.lt_of_lt_of_le hg k.size, hb, E.keep k hF hH, rangeAt_keep hr k hg (hF g hb hg)⟩
theorem PAt.mono {M : Type} {E : El M} {Pb Qb : Nat → Prop} {w : World} {p : Value} {x : M} (h : PAt E Pb w p x) (hq : ∀ g, g < w.heap.size → Pb g → Qb g) : PAt E Qb w p x := by
  obtain ⟨g, o, cs, hp, hg, hb, hH, hr⟩ := h
  exact ⟨g, o, cs, hp, hg, hq g hg hb, E.mono hq hH, hr⟩

theorem world_nil (w : World) : Calls Try.prog 8 #[.pointer none] w fun e w' => e = .returned (.slice none 0 0) ∧ w' = w := by
  go_enter Try.func8, Try.ntmps8
  go_wp2
  go_ret
  exact ⟨rfl, rfl⟩

theorem Out.made1 (w : World) (c : UInt8) {n : Int} (h : n = (c.toNat : Int)) : Out (fun _ => False) w (w.alloc (.cells #[.int .u8 n] 5)) (.slice (some ⟨w.heap.size, 0, none⟩) 1 1) [c] := by
  refine ⟨?_, (Keep.refl _ w).alloc _, fun b e => ?_⟩
  · have := Row.made (w := w) (e := 5) (size := 1) #[.int .u8 n] w.heap.size 1 rfl (by simp [maxLen]) rfl
    rw [bcells1 c h] at this
    exact this
  · simp [Value.ownBlock] at e; omega
theorem Out.apart0 {w wr : World} {v : Value} {bs : List UInt8} (h : Out (fun _ => False) w wr v bs) {Pb : Nat → Prop} (hP : ∀ g, Pb g → g < w.heap.size) : ∀ g, Pb g → g < wr.heap.size ∧ v.ownBlock ≠ some g := by
  intro g hg
  have h1 := hP g hg
  refine ⟨Nat.lt_of_lt_of_le h1 h.keep.size, fun e => ?_⟩
  rcases h.new g e with e1 | e1
  · exact e1
  · omega

set_option maxHeartbeats 1000000 in
theorem world_any {w : World} {p : Value} {W : MWorld} {Pb : Nat → Prop} (hP : ∀ g, Pb g → g < w.heap.size) (hx : PAt eWorld Pb w p W) (hok : cWorld.ok W) (hl : (cWorld.enc W).length + 1 ≤ lim) :
    Calls Try.prog 8 #[p] w (Puts (fun _ => False) w (87 :: cWorld.enc W)) := by
  obtain ⟨now, next, minted, chars, things, mobs, houses, lots, tills⟩ := W
  obtain ⟨g, off, cs, rfl, hg, _, ⟨v1, v2, v3, v4, v5, v6, l1, l2, l3, l4, l5, l6, rfl⟩, hr⟩ := hx
  have e : cWorld.enc (now, next, minted, chars, things, mobs, houses, lots, tills) = encN now ++ (encN next ++ (encN minted ++ ((cList eChar.c).enc chars ++ ((cList eThing.c).enc things ++ ((cList eMob.c).enc mobs ++ ((cList eHouse.c).enc houses ++ ((cList eLot.c).enc lots ++ ((cList eTill.c).enc tills)))))))) := rfl
  rw [e] at hl ⊢
  clear e
  rw [show (87 : UInt8) :: (encN now ++ (encN next ++ (encN minted ++ ((cList eChar.c).enc chars ++ ((cList eThing.c).enc things ++ ((cList eMob.c).enc mobs ++ ((cList eHouse.c).enc houses ++ ((cList eLot.c).enc lots ++ ((cList eTill.c).enc tills))))))))) = [87] ++ encN now ++ encN next ++ encN minted ++ (cList eChar.c).enc chars ++ (cList eThing.c).enc things ++ (cList eMob.c).enc mobs ++ (cList eHouse.c).enc houses ++ (cList eLot.c).enc lots ++ (cList eTill.c).enc tills by simp only [List.append_assoc]; rfl]
  simp only [List.length_append] at hl
  have HL := Lib.hid hl
  obtain ⟨oknow, oknext, okminted, okchars, okthings, okmobs, okhouses, oklots, oktills⟩ := hok
  have OKnow : Hid (okN now) := Lib.hid oknow
  have OKnext : Hid (okN next) := Lib.hid oknext
  have OKminted : Hid (okN minted) := Lib.hid okminted
  have OKchars : Hid ((cList eChar.c).ok chars) := Lib.hid okchars
  have OKthings : Hid ((cList eThing.c).ok things) := Lib.hid okthings
  have OKmobs : Hid ((cList eMob.c).ok mobs) := Lib.hid okmobs
  have OKhouses : Hid ((cList eHouse.c).ok houses) := Lib.hid okhouses
  have OKlots : Hid ((cList eLot.c).ok lots) := Lib.hid oklots
  have OKtills : Hid ((cList eTill.c).ok tills) := Lib.hid oktills
  have HR := Lib.hid hr
  have HG := Lib.hid hg
  have HPP := Lib.hid hP
  have L1 := Lib.hid l1
  obtain ⟨s1, d1, rfl, _⟩ := l1.slice
  have L2 := Lib.hid l2
  obtain ⟨s2, d2, rfl, _⟩ := l2.slice
  have L3 := Lib.hid l3
  obtain ⟨s3, d3, rfl, _⟩ := l3.slice
  have L4 := Lib.hid l4
  obtain ⟨s4, d4, rfl, _⟩ := l4.slice
  have L5 := Lib.hid l5
  obtain ⟨s5, d5, rfl, _⟩ := l5.slice
  have L6 := Lib.hid l6
  obtain ⟨s6, d6, rfl, _⟩ := l6.slice
  have H0 := Lib.hid (Out.made1 w 87 (n := 87) rfl)
  have HK : Hid (∀ w9 : World, Keep (fun _ => False) w w9 → w9.rangeAt g off _) := Lib.hid (fun w9 k => rangeAt_keep hr k hg (fun h => h))
  clear hl hr hg hP oknow oknext okminted okchars okthings okmobs okhouses oklots oktills l1 l2 l3 l4 l5 l6
  go_enter Try.func8, Try.ntmps8
  have c0 : _ = some (Value.int .i64 now) := (HK.out _ H0.out.keep) 0 _ rfl
  rw [Nat.add_zero] at c0
  go_wp2_with fail
  refine (putNumber_any H0.out OKnow.out (by have := HL.out; (try simp only [List.length_append, List.length_singleton]); omega)).mono ?_
  rintro e w1 ⟨a1, n1, q1, rfl, h1⟩
  have H1 := Lib.hid h1
  clear h1 c0
  have c1 : _ = some (Value.int .i64 next) := (HK.out _ H1.out.keep) 1 _ rfl
  go_wp2_with fail
  refine (putNumber_any H1.out OKnext.out (by have := HL.out; (try simp only [List.length_append, List.length_singleton]); omega)).mono ?_
  rintro e w2 ⟨a2, n2, q2, rfl, h2⟩
  have H2 := Lib.hid h2
  clear h2 c1
  have c2 : _ = some (Value.int .i64 minted) := (HK.out _ H2.out.keep) 2 _ rfl
  go_wp2_with fail
  refine (putNumber_any H2.out OKminted.out (by have := HL.out; (try simp only [List.length_append, List.length_singleton]); omega)).mono ?_
  rintro e w3 ⟨a3, n3, q3, rfl, h3⟩
  have H3 := Lib.hid h3
  clear h3 c2
  have c3 : _ = some (Value.slice s1 chars.length d1) := (HK.out _ H3.out.keep) 3 _ rfl
  go_wp2_with fail
  refine (putListChar_any H3.out (H3.out.apart0 HPP.out) (L1.out.keep H3.out.keep (fun _ _ _ h => h)) OKchars.out (by have := HL.out; (try simp only [List.length_append, List.length_singleton]); omega)).mono ?_
  rintro e w4 ⟨a4, n4, q4, rfl, h4⟩
  have H4 := Lib.hid h4
  clear h4 c3
  have c4 : _ = some (Value.slice s2 things.length d2) := (HK.out _ H4.out.keep) 4 _ rfl
  go_wp2_with fail
  refine (putListThing_any H4.out (H4.out.apart0 HPP.out) (L2.out.keep H4.out.keep (fun _ _ _ h => h)) OKthings.out (by have := HL.out; (try simp only [List.length_append, List.length_singleton]); omega)).mono ?_
  rintro e w5 ⟨a5, n5, q5, rfl, h5⟩
  have H5 := Lib.hid h5
  clear h5 c4
  have c5 : _ = some (Value.slice s3 mobs.length d3) := (HK.out _ H5.out.keep) 5 _ rfl
  go_wp2_with fail
  refine (putListMob_any H5.out (H5.out.apart0 HPP.out) (L3.out.keep H5.out.keep (fun _ _ _ h => h)) OKmobs.out (by have := HL.out; (try simp only [List.length_append, List.length_singleton]); omega)).mono ?_
  rintro e w6 ⟨a6, n6, q6, rfl, h6⟩
  have H6 := Lib.hid h6
  clear h6 c5
  have c6 : _ = some (Value.slice s4 houses.length d4) := (HK.out _ H6.out.keep) 6 _ rfl
  go_wp2_with fail
  refine (putListHouse_any H6.out (H6.out.apart0 HPP.out) (L4.out.keep H6.out.keep (fun _ _ _ h => h)) OKhouses.out (by have := HL.out; (try simp only [List.length_append, List.length_singleton]); omega)).mono ?_
  rintro e w7 ⟨a7, n7, q7, rfl, h7⟩
  have H7 := Lib.hid h7
  clear h7 c6
  have c7 : _ = some (Value.slice s5 lots.length d5) := (HK.out _ H7.out.keep) 7 _ rfl
  go_wp2_with fail
  refine (putListLot_any H7.out (H7.out.apart0 HPP.out) (L5.out.keep H7.out.keep (fun _ _ _ h => h)) OKlots.out (by have := HL.out; (try simp only [List.length_append, List.length_singleton]); omega)).mono ?_
  rintro e w8 ⟨a8, n8, q8, rfl, h8⟩
  have H8 := Lib.hid h8
  clear h8 c7
  have c8 : _ = some (Value.slice s6 tills.length d6) := (HK.out _ H8.out.keep) 8 _ rfl
  go_wp2_with fail
  refine (putListTill_any H8.out (H8.out.apart0 HPP.out) (L6.out.keep H8.out.keep (fun _ _ _ h => h)) OKtills.out (by have := HL.out; (try simp only [List.length_append, List.length_singleton]); omega)).mono ?_
  rintro e w9 ⟨a9, n9, q9, rfl, h9⟩
  have H9 := Lib.hid h9
  clear h9 c8
  go_wp2
  go_ret
  exact H9.out.puts

theorem event_any {w : World} {x : MEvent} {cs : List Value} {Pb : Nat → Prop} (hP : ∀ g, Pb g → g < w.heap.size) (hx : eEvent.H Pb w x cs) (hok : cEvent.ok x) (hl : (cEvent.enc x).length + 1 ≤ lim) :
    Calls Try.prog 14 #[struct_ cs] w (Puts (fun _ => False) w (69 :: cEvent.enc x)) := by
  obtain ⟨kind, name, text, dice⟩ := x
  obtain ⟨dv, hL, rfl⟩ := hx
  have e : cEvent.enc (kind, name, text, dice) = encN kind ++ (cT.enc name ++ (cT.enc text ++ ((cList eI.c).enc dice))) := rfl
  rw [e] at hl ⊢
  clear e
  rw [show (69 : UInt8) :: (encN kind ++ (cT.enc name ++ (cT.enc text ++ ((cList eI.c).enc dice)))) = [69] ++ encN kind ++ cT.enc name ++ cT.enc text ++ (cList eI.c).enc dice by simp only [List.append_assoc]; rfl]
  simp only [List.length_append] at hl
  have HL := Lib.hid hl
  obtain ⟨okkind, okname, oktext, okdice⟩ := hok
  have OKkind : Hid (okN kind) := Lib.hid okkind
  have OKname : Hid (name.size < 2147483648) := Lib.hid okname
  have OKtext : Hid (text.size < 2147483648) := Lib.hid oktext
  have OKdice : Hid ((cList eI.c).ok dice) := Lib.hid okdice
  have HPP := Lib.hid hP
  have HLA := Lib.hid hL
  obtain ⟨ad, cd, rfl, _⟩ := hL.slice
  have hM := Out.made1 (w.alloc (.cells #[.int .i64 kind, .string name, .string text, .slice ad dice.length cd] 44)) 69 (n := 69) rfl
  rw [World.size_alloc] at hM
  have HM := Lib.hid hM
  clear hM
  have KA := Lib.hid ((Keep.refl (fun _ => False) w).alloc (.cells #[.int .i64 kind, .string name, .string text, .slice ad dice.length cd] 44))
  have HX : Hid (∀ (w9 : World), Keep (fun _ => False) (w.alloc (.cells #[.int .i64 kind, .string name, .string text, .slice ad dice.length cd] 44)) w9 → w9.heap[w.heap.size]? = some (.cells #[.int .i64 kind, .string name, .string text, .slice ad dice.length cd] 44 (0, 0))) := Lib.hid (fun w9 k => (k.block _ (by rw [World.size_alloc]; omega) (fun h => h)).trans (heap_alloc_new w _))
  clear hl hP hL okkind okname oktext okdice
  unfold struct_
  go_enter Try.func14, Try.ntmps14
  have H0 := HM
  have c0 : _ = some (Value.int .i64 kind) := (cell_of_row _ _ 0 _ _ _ (HX.out _ H0.out.keep)).trans rfl
  go_wp2_with fail
  refine (putInt_any H0.out OKkind.out (by have := HL.out; (try simp only [List.length_append, List.length_singleton]); omega)).mono ?_
  rintro e w1 ⟨a1, n1, q1, rfl, h1⟩
  have H1 := Lib.hid h1
  clear h1 c0
  have c1 : _ = some (Value.string name) := (cell_of_row _ _ 1 _ _ _ (HX.out _ H1.out.keep)).trans rfl
  go_wp2_with fail
  refine (putText_any H1.out name OKname.out (by have := HL.out; (try simp only [List.length_append, List.length_singleton]); omega)).mono ?_
  rintro e w2 ⟨a2, n2, q2, rfl, h2⟩
  have H2 := Lib.hid h2
  clear h2 c1
  have c2 : _ = some (Value.string text) := (cell_of_row _ _ 2 _ _ _ (HX.out _ H2.out.keep)).trans rfl
  go_wp2_with fail
  refine (putText_any H2.out text OKtext.out (by have := HL.out; (try simp only [List.length_append, List.length_singleton]); omega)).mono ?_
  rintro e w3 ⟨a3, n3, q3, rfl, h3⟩
  have H3 := Lib.hid h3
  clear h3 c2
  have c3 : _ = some (Value.slice ad dice.length cd) := (cell_of_row _ _ 3 _ _ _ (HX.out _ H3.out.keep)).trans rfl
  go_wp2_with fail
  refine (putListInt_any H3.out (H3.out.apart0 (fun g hg => by rw [World.size_alloc]; have := HPP.out g hg; omega)) ((HLA.out.keep KA.out (fun _ _ _ h => h)).keep H3.out.keep (fun _ _ _ h => h)) OKdice.out (by have := HL.out; (try simp only [List.length_append, List.length_singleton]); omega)).mono ?_
  rintro e w4 ⟨a4, n4, q4, rfl, h4⟩
  have H4 := Lib.hid h4
  clear h4 c3
  go_wp2
  go_ret
  have h9 := H4.out
  have k9 := KA.out.size
  exact (show Out (fun _ => False) w _ _ _ from ⟨h9.row, KA.out.trans h9.keep (fun _ h => h.elim), fun b e => by rcases h9.new b e with e1 | e1; exact e1.elim; right; omega⟩).puts

end Go.Proofs.Ytpefkellcigpkaa.Cd
