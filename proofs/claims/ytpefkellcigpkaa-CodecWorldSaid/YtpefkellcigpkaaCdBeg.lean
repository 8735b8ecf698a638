/- codec: what layer 9's own beginning does. -/
import Derived.Test.YtpefkellcigpkaaCdEq1
import Derived.Test.YtpefkellcigpkaaErr
import Derived.Lib.SmallJoins
namespace Go.Proofs.Ytpefkellcigpkaa.Cd
open Go.RowKit Go.Proofs.Ytpefkellcigpkaa
set_option maxRecDepth 100000

theorem is_same (a : Int) (h : (a == 0) = false) {w : World} :
    Calls Try.prog 18 #[apiErr a, .int .i64 a] w fun e w' => e = .returned (.bool true) ∧ w = w' := by
  simp only [apiErr]
  go_enter Try.func18, Try.ntmps18
  go_wp2_with (go_at_call 67; refine (errIs_same a _).mono ?_; rintro e w' ⟨rfl, rfl⟩)
  go_ret
  exact ⟨rfl, rfl⟩

def W0 : MWorld := (5, 0, 0, [], [], [(1, 0, 2, 0)], [], [], [])
def E0 : MEvent := (5, ⟨#[]⟩, ⟨#[]⟩, [-3])

theorem okW0 : cWorld.ok W0 := by
  refine ⟨?_, ?_, ?_, ?_, ?_, ?_, ?_, ?_, ?_⟩
  · simp [W0, cN, okN]
  · simp [W0, cN, okN]
  · simp [W0, cN, okN]
  · exact ⟨by decide, fun x hx => by simp [W0] at hx⟩
  · exact ⟨by decide, fun x hx => by simp [W0] at hx⟩
  · refine ⟨by decide, fun x hx => ?_⟩
    have h1 : x = (1, 0, 2, 0) := by simpa [W0] using hx
    subst h1
    refine ⟨?_, ?_, ?_, ?_⟩ <;> simp [cN, okN]
  · exact ⟨by decide, fun x hx => by simp [W0] at hx⟩
  · exact ⟨by decide, fun x hx => by simp [W0] at hx⟩
  · exact ⟨by decide, fun x hx => by simp [W0] at hx⟩
theorem okE0 : cEvent.ok E0 := by
  refine ⟨?_, ?_, ?_, ?_⟩
  · simp [E0, cN, okN]
  · show (0 : Nat) < 2147483648; decide
  · show (0 : Nat) < 2147483648; decide
  · simp [E0, cN, okN, cList]
theorem lenW0 : (cWorld.enc W0).length + 1 ≤ lim := by decide +kernel
theorem lenE0 : (cEvent.enc E0).length + 1 ≤ lim := by decide +kernel
theorem whole_none : whole 87 cWorld [110, 111, 110, 101] = none := by
  cases h : whole 87 cWorld [110, 111, 110, 101] with
  | none => rfl
  | some x =>
    have := (whole_bwd 87 cWorld _ x h).2
    simp at this

theorem rangeAt_block {w : World} {g : Nat} {cs : List Value} {t : TypeId} {f : Nat × Nat} (h : w.heap[g]? = some (.cells cs.toArray t f)) : w.rangeAt g 0 cs := fun j u hu => by
  rw [Nat.zero_add, cell_of_row _ _ _ _ _ _ h]; simpa using hu
theorem rangeAt_block2 {w : World} {g : Nat} {C : Array Value} {cs : List Value} {t : TypeId} {f : Nat × Nat} (h : w.heap[g]? = some (.cells C t f)) (hC : C = cs.toArray) : w.rangeAt g 0 cs := by subst hC; exact rangeAt_block h

/-- A list of one thing that has just been made. -/
theorem one_at {M : Type} {E : El M} {Pb : Nat → Prop} {w : World} {g : Nat} {x : M} {cs : List Value} (hg : g < w.heap.size) (hb : Pb g) (hH : E.H Pb w x cs) (hr : w.rangeAt g 0 cs) : LAt E Pb w (.slice (some ⟨g, 0, none⟩) 1 1) [x] := by
  refine ⟨_, 1, rfl, Nat.le_refl _, by simp [maxLen], .inr ⟨g, 0, rfl, hg, hb, fun i y hi => ?_⟩⟩
  have h0 : i = 0 := by
    have := (List.getElem?_eq_some_iff.1 hi).1
    simpa using this
  subst h0
  simp only [List.getElem?_cons_zero, Option.some.injEq] at hi
  subst hi
  exact ⟨cs, hH, by simpa using hr⟩

set_option maxHeartbeats 2000000 in
theorem begun_any (HEW : EqWorldSpec) {w : World} : Calls Try.prog 6 #[] w fun e w' => e = .returned (.bool true) ∧ Keep (fun _ => False) w w' := by
  have kc := fun (w : World) (C : Array Value) (n c g : Nat) (hg : g = w.heap.size) => _root_.Go.Joins.run_convert_bytes_const_at (P := Try.prog) w 33 5 C n c g hg Try.underlying33 Try.underlying5
  have K2 : Hid (Keep (fun _ => False) w ((w.alloc (.cells #[.int .i64 1, .int .i64 0, .int .i64 2, .int .i64 0] 54)).alloc (.cells #[.int .i64 5, .int .i64 0, .int .i64 0, .slice none 0 0, .slice none 0 0, .slice (some ⟨w.heap.size, 0, none⟩) 1 1, .slice none 0 0, .slice none 0 0, .slice none 0 0] 29))) := Lib.hid (((Keep.refl _ w).alloc _).alloc _)
  have hA : ((w.alloc (.cells #[.int .i64 1, .int .i64 0, .int .i64 2, .int .i64 0] 54)).alloc (.cells #[.int .i64 5, .int .i64 0, .int .i64 0, .slice none 0 0, .slice none 0 0, .slice (some ⟨w.heap.size, 0, none⟩) 1 1, .slice none 0 0, .slice none 0 0, .slice none 0 0] 29)).heap[w.heap.size]? = some (.cells #[.int .i64 1, .int .i64 0, .int .i64 2, .int .i64 0] 54 (0, 0)) :=
    (((Keep.refl (fun _ => False) (w.alloc _)).alloc _).block _ (by rw [World.size_alloc]; omega) (fun h => h)).trans (heap_alloc_new w _)
  have hB : ((w.alloc (.cells #[.int .i64 1, .int .i64 0, .int .i64 2, .int .i64 0] 54)).alloc (.cells #[.int .i64 5, .int .i64 0, .int .i64 0, .slice none 0 0, .slice none 0 0, .slice (some ⟨w.heap.size, 0, none⟩) 1 1, .slice none 0 0, .slice none 0 0, .slice none 0 0] 29)).heap[w.heap.size + 1]? = some (.cells #[.int .i64 5, .int .i64 0, .int .i64 0, .slice none 0 0, .slice none 0 0, .slice (some ⟨w.heap.size, 0, none⟩) 1 1, .slice none 0 0, .slice none 0 0, .slice none 0 0] 29 (0, 0)) := by
    have h9 := heap_alloc_new (w.alloc (.cells #[.int .i64 1, .int .i64 0, .int .i64 2, .int .i64 0] 54)) (.cells #[.int .i64 5, .int .i64 0, .int .i64 0, .slice none 0 0, .slice none 0 0, .slice (some ⟨w.heap.size, 0, none⟩) 1 1, .slice none 0 0, .slice none 0 0, .slice none 0 0] 29)
    rwa [World.size_alloc] at h9
  have HA := Lib.hid hA
  have HB := Lib.hid hB
  clear hA hB
  go_enter Try.func6, Try.ntmps6
  go_wp2_with fail
  generalize ((w.alloc (.cells #[.int .i64 1, .int .i64 0, .int .i64 2, .int .i64 0] 54)).alloc (.cells #[.int .i64 5, .int .i64 0, .int .i64 0, .slice none 0 0, .slice none 0 0, .slice (some ⟨w.heap.size, 0, none⟩) 1 1, .slice none 0 0, .slice none 0 0, .slice none 0 0] 29)) = w2 at *
  have HP : Hid (PAt eWorld (fun b => b < w2.heap.size) w2 (.pointer (some ⟨w.heap.size + 1, 0, none⟩)) W0) := Lib.hid
    ⟨_, 0, _, rfl, lt_of_block HB.out, lt_of_block HB.out, ⟨_, _, _, _, _, _, LAt.nil, LAt.nil, one_at (lt_of_block HA.out) (lt_of_block HA.out) rfl (rangeAt_block2 HA.out rfl), LAt.nil, LAt.nil, LAt.nil, rfl⟩, rangeAt_block2 HB.out rfl⟩
  refine (world_any (fun g hg => hg) HP.out okW0 lenW0).mono ?_
  rintro e w3 ⟨a3, n3, q3, rfl, h3⟩
  have H3 := Lib.hid h3
  clear h3
  go_wp2_with fail
  refine (readWorld_any H3.out.row.seen (fun b hb => H3.out.lt hb)).mono ?_
  rintro e w4 r4
  obtain ⟨g4, o4, rfl, hp4⟩ := r4.some W0 (whole_fwd 87 cWorld W0 okW0)
  have HP4 := Lib.hid hp4
  have K4 := Lib.hid ((K2.out.trans H3.out.keep (fun _ h => h.elim)).trans r4.keep (fun _ h => h.elim))
  have HP1 := Lib.hid ((HP.out.keep H3.out.keep (fun _ _ _ h => h)).keep r4.keep (fun _ _ _ h => h))
  clear hp4 r4
  go_wp2_with fail
  have N5 := heap_alloc_new w4 (.cells #[.int .i64 (-3)] 3)
  have KA := (Keep.refl (fun _ => False) w4).alloc (.cells #[.int .i64 (-3)] 3)
  have HEV := event_any (w := w4.alloc (.cells #[.int .i64 (-3)] 3)) (x := E0) (Pb := fun b => b < (w4.alloc (.cells #[.int .i64 (-3)] 3)).heap.size) (fun g hg => hg)
    ⟨_, one_at (by rw [World.size_alloc]; omega) (by rw [World.size_alloc]; omega) rfl (rangeAt_block2 N5 rfl), rfl⟩ okE0 lenE0
  unfold struct_ at HEV
  have K5 := Lib.hid (K4.out.trans KA (fun _ h => h.elim))
  have HP5 := Lib.hid (HP4.out.keep KA (fun _ _ _ h => h))
  have HP15 := Lib.hid (HP1.out.keep KA (fun _ _ _ h => h))
  refine HEV.mono ?_
  clear HEV N5 KA
  generalize w4.alloc (.cells #[.int .i64 (-3)] 3) = w5 at *
  rintro e w6 ⟨a6, n6, q6, rfl, h6⟩
  have H6 := Lib.hid h6
  clear h6
  go_wp2_with fail
  refine (readEvent_any H6.out.row.seen (fun b hb => H6.out.lt hb)).mono ?_
  rintro e w7 r7
  obtain ⟨cs7, rfl, dv, hd7, hcs7⟩ := r7.some E0 (whole_fwd 69 cEvent E0 okE0)
  have k7 := H6.out.keep.trans r7.keep (fun _ h => h.elim)
  have K7 := Lib.hid (K5.out.trans k7 (fun _ h => h.elim))
  have HP7 := Lib.hid (HP5.out.keep k7 (fun _ _ _ h => h))
  have HP17 := Lib.hid (HP15.out.keep k7 (fun _ _ _ h => h))
  have HD7 := Lib.hid hd7
  obtain ⟨ad, cd, rfl, _⟩ := hd7.slice
  have ecs : cs7.toArray = #[.int .i64 5, .string ⟨#[]⟩, .string ⟨#[]⟩, .slice ad 1 cd] := by rw [hcs7]; rfl
  rw [ecs]
  clear hd7 r7 k7 hcs7 ecs
  have hE9 : ((w7.alloc (.cells #[.int .i64 5, .string ⟨#[]⟩, .string ⟨#[]⟩, .slice ad 1 cd] 44)).alloc (.cells #[.int .u8 110, .int .u8 111, .int .u8 110, .int .u8 101] 5 (4, 5))).heap[w7.heap.size]? = some (.cells #[.int .i64 5, .string ⟨#[]⟩, .string ⟨#[]⟩, .slice ad 1 cd] 44 (0, 0)) :=
    (((Keep.refl (fun _ => False) (w7.alloc _)).alloc _).block _ (by rw [World.size_alloc]; omega) (fun h => h)).trans (heap_alloc_new w7 _)
  have hN9 : ((w7.alloc (.cells #[.int .i64 5, .string ⟨#[]⟩, .string ⟨#[]⟩, .slice ad 1 cd] 44)).alloc (.cells #[.int .u8 110, .int .u8 111, .int .u8 110, .int .u8 101] 5 (4, 5))).heap[w7.heap.size + 1]? = some (.cells #[.int .u8 110, .int .u8 111, .int .u8 110, .int .u8 101] 5 (4, 5)) := by
    have h9 := heap_alloc_new (w7.alloc (.cells #[.int .i64 5, .string ⟨#[]⟩, .string ⟨#[]⟩, .slice ad 1 cd] 44)) (.cells #[.int .u8 110, .int .u8 111, .int .u8 110, .int .u8 101] 5 (4, 5))
    rwa [World.size_alloc] at h9
  have hK9 : Keep (fun _ => False) w7 ((w7.alloc (.cells #[.int .i64 5, .string ⟨#[]⟩, .string ⟨#[]⟩, .slice ad 1 cd] 44)).alloc (.cells #[.int .u8 110, .int .u8 111, .int .u8 110, .int .u8 101] 5 (4, 5))) := ((Keep.refl _ w7).alloc _).alloc _
  have HE9 := Lib.hid hE9
  have HN9 := Lib.hid hN9
  have HK9 := Lib.hid hK9
  clear hE9 hN9 hK9
  go_wp2_with fail
  generalize ((w7.alloc (.cells #[.int .i64 5, .string ⟨#[]⟩, .string ⟨#[]⟩, .slice ad 1 cd] 44)).alloc (.cells #[.int .u8 110, .int .u8 111, .int .u8 110, .int .u8 101] 5 (4, 5))) = w9 at *
  have HS9 : Hid (Seen w9 1 (.slice (some ⟨w7.heap.size + 1, 0, none⟩) 4 4) 4 (bcells [110, 111, 110, 101])) := Lib.hid
    ⟨rfl, _, 4, rfl, Nat.le_refl _, by simp [maxLen], .inr ⟨_, 0, rfl, lt_of_block HN9.out, rangeAt_block2 HN9.out rfl⟩⟩
  refine (readWorld_any (bs := [110, 111, 110, 101]) HS9.out (fun b hb => by
    simp only [own, Value.ownBlock, Option.some.injEq] at hb
    rw [← hb]; exact lt_of_block HN9.out)).mono ?_
  rintro e w10 r10
  obtain rfl := r10.none whole_none
  have k10 := HK9.out.trans r10.keep (fun _ h => h.elim)
  have K10 := Lib.hid (K7.out.trans k10 (fun _ h => h.elim))
  have HP10 := Lib.hid (HP7.out.keep k10 (fun _ _ _ h => h))
  have HP110 := Lib.hid (HP17.out.keep k10 (fun _ _ _ h => h))
  have HD10 := Lib.hid (HD7.out.keep k10 (fun _ _ _ h => h))
  have HE10 := Lib.hid ((r10.keep.block _ (lt_of_block HE9.out) (fun h => h)).trans HE9.out)
  clear r10 k10 kc
  go_wp2_with fail
  refine (HEW HP110.out HP10.out).mono ?_
  rintro e w11 ⟨b, rfl, hb, hk11⟩
  obtain rfl : b = true := hb.2 rfl
  have K11 := Lib.hid (K10.out.trans hk11 (fun _ h => h.elim))
  have hp11 := HP10.out.keep hk11 (fun _ _ _ h => h)
  obtain ⟨g, o, cs, hp, _, _, ⟨_, _, _, _, _, _, _, _, _, _, _, _, hcs⟩, hr⟩ := hp11
  simp only [Value.pointer.injEq, Option.some.injEq, Addr.mk.injEq, and_true] at hp
  obtain ⟨rfl, rfl⟩ := hp
  subst hcs
  have c0 : _ = some (Value.int .i64 5) := hr 0 _ rfl
  rw [Nat.add_zero] at c0
  have HE11 := Lib.hid ((hk11.block _ (lt_of_block HE10.out) (fun h => h)).trans HE10.out)
  have d0 : _ = some (Value.int .i64 5) := (cell_of_row _ _ 0 _ _ _ HE11.out).trans rfl
  have d3 : _ = some (Value.slice ad 1 cd) := (cell_of_row _ _ 3 _ _ _ HE11.out).trans rfl
  obtain ⟨g5, o5, cs5, rfl, _, _, hc5, hr5⟩ := (HD10.out.keep hk11 (fun _ _ _ h => h)).get 0 (-3) rfl
  have ec5 : cs5 = [.int .i64 (-3)] := hc5
  subst ec5
  have c5 : _ = some (Value.int .i64 (-3)) := hr5 0 _ rfl
  simp only [Nat.zero_mul, Nat.add_zero] at c5
  clear hr hr5 hc5 hb hk11
  have his := is_same 4 rfl (w := w11)
  simp only [apiErr] at his
  have HIS := Lib.hid his
  clear his
  go_wp2_with fail
  refine HIS.out.mono ?_
  rintro e w12 ⟨rfl, rfl⟩
  go_wp2
  go_ret
  exact ⟨rfl, K11.out⟩

end Go.Proofs.Ytpefkellcigpkaa.Cd
