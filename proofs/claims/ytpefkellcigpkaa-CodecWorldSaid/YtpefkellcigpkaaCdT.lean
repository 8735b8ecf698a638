/- codec: ReadWorld and ReadEvent. -/
import Derived.Test.YtpefkellcigpkaaCdP
import Derived.Test.YtpefkellcigpkaaCdRThing
import Derived.Test.YtpefkellcigpkaaCdRMob
import Derived.Test.YtpefkellcigpkaaCdRTill
import Derived.Test.YtpefkellcigpkaaCdRLot
import Derived.Test.YtpefkellcigpkaaCdRHouse
import Derived.Test.YtpefkellcigpkaaCdRChar
namespace Go.Proofs.Ytpefkellcigpkaa.Cd
open Go.RowKit Go.Proofs.Ytpefkellcigpkaa
set_option maxRecDepth 100000

/-- The mark, and what is behind it. -/
def markD (c : UInt8) (S : R) : R := if S.byte.1 = c then S.byte.2 else S.byte.2.fail
/-- What whole bytes are. -/
def whole {M : Type} (c : UInt8) (A : Cod M) (bs : List UInt8) : Option M :=
  let q := A.dec (markD c ⟨bs, false⟩)
  if (!q.2.br && decide (q.2.rest.length = 0)) = true then some q.1 else none
theorem whole_fwd {M : Type} (c : UInt8) (A : Cod M) (x : M) (h : A.ok x) : whole c A (c :: A.enc x) = some x := by
  have e1 : markD c ⟨c :: A.enc x, false⟩ = ⟨A.enc x ++ [], false⟩ := by unfold markD; rw [byte_cons]; simp
  have e2 := A.fwd x h []
  simp only [whole, e1, e2]; rfl
theorem whole_bwd {M : Type} (c : UInt8) (A : Cod M) (bs : List UInt8) (x : M) (h : whole c A bs = some x) : A.ok x ∧ bs = c :: A.enc x := by
  unfold whole at h
  simp only at h
  split at h
  · next hg =>
    simp only [Option.some.injEq] at h
    subst h
    simp only [Bool.and_eq_true, Bool.not_eq_true', decide_eq_true_eq] at hg
    obtain ⟨h1, h2, h3⟩ := A.bwd _ hg.1
    rw [List.eq_nil_of_length_eq_zero hg.2, List.append_nil] at h3
    refine ⟨h2, ?_⟩
    unfold markD at h1 h3
    split at h1
    · next hc =>
      rw [if_pos hc] at h3
      obtain ⟨h4, h5⟩ := byte_bwd h1
      rw [hc] at h5
      unfold markD
      rw [if_pos hc, ← h3]
      exact h5
    · simp [R.fail] at h1
  · cases h
theorem whole_inj {M : Type} (c : UInt8) (A : Cod M) (x y : M) (hx : A.ok x) (hy : A.ok y) : (c :: A.enc x = c :: A.enc y) ↔ x = y := by
  refine ⟨fun h => ?_, fun h => by rw [h]⟩
  have h1 := whole_fwd c A x hx
  rw [h, whole_fwd c A y hy] at h1
  exact (Option.some.inj h1).symm

theorem rd_new {w : World} {v : Value} {bs : List UInt8} (hs : Seen w 1 v bs.length (bcells bs)) (hv : ∀ b, own v b → b < w.heap.size) : RdAt w.heap.size (w.alloc (.cells #[v, .bool false] 85)) w.heap.size ⟨bs, false⟩ := by
  have hs2 := hs
  obtain ⟨_, a, cap, rfl, _⟩ := hs
  exact ⟨a, bs.length, cap, heap_alloc_new w _, rfl, hs2.keep ((Keep.refl (fun _ => False) w).alloc _) (fun _ _ _ h => h), fun b hb => by have := hv b hb; omega⟩

/-- What ReadWorld answers. -/
structure RWorld (w : World) (q : Option MWorld) (e : Ending) (w' : World) : Prop where
  keep : Keep (fun _ => False) w w'
  some : ∀ W, q = some W → ∃ g o, e = .returned (.tuple #[.pointer (some ⟨g, o, none⟩), Value.nilIface]) ∧ PAt eWorld (fun b => w.heap.size ≤ b) w' (.pointer (some ⟨g, o, none⟩)) W
  none : q = none → e = .returned (.tuple #[.pointer none, .iface 51 (.int .i64 4)])
structure REvent (w : World) (q : Option MEvent) (e : Ending) (w' : World) : Prop where
  keep : Keep (fun _ => False) w w'
  some : ∀ x, q = some x → ∃ cs, e = .returned (.tuple #[.agg cs.toArray, Value.nilIface]) ∧ eEvent.H (fun b => w.heap.size ≤ b) w' x cs
  none : q = none → e = .returned (.tuple #[.agg #[.int .i64 0, .string ⟨#[]⟩, .string ⟨#[]⟩, .slice none 0 0], .iface 51 (.int .i64 4)])

set_option maxHeartbeats 2000000 in
theorem readWorld_any {w : World} {v : Value} {bs : List UInt8} (hs : Seen w 1 v bs.length (bcells bs)) (hv : ∀ b, own v b → b < w.heap.size) : Calls Try.prog 9 #[v] w (RWorld w (whole 87 cWorld bs)) := by
  have H00 := Lib.hid (rd_new hs hv)
  have HSZ : Hid ((w.alloc (.cells #[v, .bool false] 85)).heap.size = w.heap.size + 1) := Lib.hid (World.size_alloc ..)
  obtain ⟨S0, e00⟩ : ∃ S0, markD 87 ⟨bs, false⟩ = S0 := ⟨_, rfl⟩
  obtain ⟨x0, S1, e0⟩ : ∃ x S', decN S0 = (x, S') := ⟨_, _, rfl⟩
  obtain ⟨x1, S2, e1⟩ : ∃ x S', decN S1 = (x, S') := ⟨_, _, rfl⟩
  obtain ⟨x2, S3, e2⟩ : ∃ x S', decN S2 = (x, S') := ⟨_, _, rfl⟩
  obtain ⟨x3, S4, e3⟩ : ∃ x S', (cList cChar).dec S3 = (x, S') := ⟨_, _, rfl⟩
  obtain ⟨x4, S5, e4⟩ : ∃ x S', (cList cThing).dec S4 = (x, S') := ⟨_, _, rfl⟩
  obtain ⟨x5, S6, e5⟩ : ∃ x S', (cList cMob).dec S5 = (x, S') := ⟨_, _, rfl⟩
  obtain ⟨x6, S7, e6⟩ : ∃ x S', (cList cHouse).dec S6 = (x, S') := ⟨_, _, rfl⟩
  obtain ⟨x7, S8, e7⟩ : ∃ x S', (cList cLot).dec S7 = (x, S') := ⟨_, _, rfl⟩
  obtain ⟨x8, S9, e8⟩ : ∃ x S', (cList cTill).dec S8 = (x, S') := ⟨_, _, rfl⟩
  have E : whole 87 cWorld bs = if (!S9.br && decide (S9.rest.length = 0)) = true then some (x0, x1, x2, x3, x4, x5, x6, x7, x8) else none := by
    simp only [whole, e00, cWorld, pair, cN_dec, e0, e1, e2, e3, e4, e5, e6, e7, e8]
  generalize whole 87 cWorld bs = q at E ⊢
  obtain ⟨b, hb⟩ : ∃ b, b = (!S9.br && decide (S9.rest.length = 0)) := ⟨_, rfl⟩
  rw [← hb] at E
  have HQ := Lib.hid E
  have HBB := Lib.hid hb
  clear E hb
  have HM := Lib.hid (mark_any H00.out 87)
  rw [show (if (R.mk bs false).byte.1 = 87 then (R.mk bs false).byte.2 else (R.mk bs false).byte.2.fail) = S0 from e00] at HM
  have E0 := Lib.hid e0
  have E1 := Lib.hid e1
  have E2 := Lib.hid e2
  have E3 := Lib.hid e3
  have E4 := Lib.hid e4
  have E5 := Lib.hid e5
  have E6 := Lib.hid e6
  have E7 := Lib.hid e7
  have E8 := Lib.hid e8
  clear e00 e0 e1 e2 e3 e4 e5 e6 e7 e8
  obtain ⟨_, av, cv, rfl, _⟩ := hs
  go_enter Try.func9, Try.ntmps9
  go_wp2_with fail
  refine HM.out.mono ?_
  rintro e w0 ⟨rfl, hr, hk⟩
  have H0 := Lib.hid hr
  have K0 := Lib.hid hk
  clear hr hk
  go_wp2_with fail
  have C0 := nextNumber_any H0.out
  rw [E0.out] at C0
  refine C0.mono ?_
  rintro e w1 ⟨rfl, hr, hk⟩
  have H1 := Lib.hid hr
  have K1 := Lib.hid (K0.out.trans hk)
  clear hr hk C0
  go_wp2_with fail
  have C1 := nextNumber_any H1.out
  rw [E1.out] at C1
  refine C1.mono ?_
  rintro e w2 ⟨rfl, hr, hk⟩
  have H2 := Lib.hid hr
  have K2 := Lib.hid (K1.out.trans hk)
  clear hr hk C1
  go_wp2_with fail
  have C2 := nextNumber_any H2.out
  rw [E2.out] at C2
  refine C2.mono ?_
  rintro e w3 ⟨rfl, hr, hk⟩
  have H3 := Lib.hid hr
  have K3 := Lib.hid (K2.out.trans hk)
  clear hr hk C2
  go_wp2_with fail
  have C3 := readListChar_any H3.out (by have := K3.out.size; have := HSZ.out; omega)
  rw [show (cList eChar.c).dec S3 = _ from E3.out] at C3
  refine C3.mono ?_
  rintro e w4 ⟨v3, rfl, hl, hr, hk⟩
  have L4x3 : Hid (LAt eChar (fun b => w.heap.size < b) w4 v3 x3) := Lib.hid (hl.mono (fun b _ hb => by have := K3.out.size; have := HSZ.out; omega))
  obtain ⟨p3, d3, rfl, _⟩ := hl.slice
  clear hl
  have H4 := Lib.hid hr
  have K4 := Lib.hid (K3.out.trans hk)
  clear hr hk C3
  go_wp2_with fail
  have C4 := readListThing_any H4.out (by have := K4.out.size; have := HSZ.out; omega)
  rw [show (cList eThing.c).dec S4 = _ from E4.out] at C4
  refine C4.mono ?_
  rintro e w5 ⟨v4, rfl, hl, hr, hk⟩
  have L5x4 : Hid (LAt eThing (fun b => w.heap.size < b) w5 v4 x4) := Lib.hid (hl.mono (fun b _ hb => by have := K4.out.size; have := HSZ.out; omega))
  have L5x3 := Lib.hid (L4x3.out.keep hk (fun b hb _ e => by omega))
  obtain ⟨p4, d4, rfl, _⟩ := hl.slice
  clear hl
  have H5 := Lib.hid hr
  have K5 := Lib.hid (K4.out.trans hk)
  clear hr hk C4
  go_wp2_with fail
  have C5 := readListMob_any H5.out (by have := K5.out.size; have := HSZ.out; omega)
  rw [show (cList eMob.c).dec S5 = _ from E5.out] at C5
  refine C5.mono ?_
  rintro e w6 ⟨v5, rfl, hl, hr, hk⟩
  have L6x5 : Hid (LAt eMob (fun b => w.heap.size < b) w6 v5 x5) := Lib.hid (hl.mono (fun b _ hb => by have := K5.out.size; have := HSZ.out; omega))
  have L6x3 := Lib.hid (L5x3.out.keep hk (fun b hb _ e => by omega))
  have L6x4 := Lib.hid (L5x4.out.keep hk (fun b hb _ e => by omega))
  obtain ⟨p5, d5, rfl, _⟩ := hl.slice
  clear hl
  have H6 := Lib.hid hr
  have K6 := Lib.hid (K5.out.trans hk)
  clear hr hk C5
  go_wp2_with fail
  have C6 := readListHouse_any H6.out (by have := K6.out.size; have := HSZ.out; omega)
  rw [show (cList eHouse.c).dec S6 = _ from E6.out] at C6
  refine C6.mono ?_
  rintro e w7 ⟨v6, rfl, hl, hr, hk⟩
  have L7x6 : Hid (LAt eHouse (fun b => w.heap.size < b) w7 v6 x6) := Lib.hid (hl.mono (fun b _ hb => by have := K6.out.size; have := HSZ.out; omega))
  have L7x3 := Lib.hid (L6x3.out.keep hk (fun b hb _ e => by omega))
  have L7x4 := Lib.hid (L6x4.out.keep hk (fun b hb _ e => by omega))
  have L7x5 := Lib.hid (L6x5.out.keep hk (fun b hb _ e => by omega))
  obtain ⟨p6, d6, rfl, _⟩ := hl.slice
  clear hl
  have H7 := Lib.hid hr
  have K7 := Lib.hid (K6.out.trans hk)
  clear hr hk C6
  go_wp2_with fail
  have C7 := readListLot_any H7.out (by have := K7.out.size; have := HSZ.out; omega)
  rw [show (cList eLot.c).dec S7 = _ from E7.out] at C7
  refine C7.mono ?_
  rintro e w8 ⟨v7, rfl, hl, hr, hk⟩
  have L8x7 : Hid (LAt eLot (fun b => w.heap.size < b) w8 v7 x7) := Lib.hid (hl.mono (fun b _ hb => by have := K7.out.size; have := HSZ.out; omega))
  have L8x3 := Lib.hid (L7x3.out.keep hk (fun b hb _ e => by omega))
  have L8x4 := Lib.hid (L7x4.out.keep hk (fun b hb _ e => by omega))
  have L8x5 := Lib.hid (L7x5.out.keep hk (fun b hb _ e => by omega))
  have L8x6 := Lib.hid (L7x6.out.keep hk (fun b hb _ e => by omega))
  obtain ⟨p7, d7, rfl, _⟩ := hl.slice
  clear hl
  have H8 := Lib.hid hr
  have K8 := Lib.hid (K7.out.trans hk)
  clear hr hk C7
  go_wp2_with fail
  have C8 := readListTill_any H8.out (by have := K8.out.size; have := HSZ.out; omega)
  rw [show (cList eTill.c).dec S8 = _ from E8.out] at C8
  refine C8.mono ?_
  rintro e w9 ⟨v8, rfl, hl, hr, hk⟩
  have L9x8 : Hid (LAt eTill (fun b => w.heap.size < b) w9 v8 x8) := Lib.hid (hl.mono (fun b _ hb => by have := K8.out.size; have := HSZ.out; omega))
  have L9x3 := Lib.hid (L8x3.out.keep hk (fun b hb _ e => by omega))
  have L9x4 := Lib.hid (L8x4.out.keep hk (fun b hb _ e => by omega))
  have L9x5 := Lib.hid (L8x5.out.keep hk (fun b hb _ e => by omega))
  have L9x6 := Lib.hid (L8x6.out.keep hk (fun b hb _ e => by omega))
  have L9x7 := Lib.hid (L8x7.out.keep hk (fun b hb _ e => by omega))
  obtain ⟨p8, d8, rfl, _⟩ := hl.slice
  clear hl
  have H9 := Lib.hid hr
  have K9 := Lib.hid (K8.out.trans hk)
  clear hr hk C8
  have HE := Lib.hid (ended_any (H9.out.keep ((Keep.refl (fun _ => False) w9).alloc (.cells #[.int .i64 x0, .int .i64 x1, .int .i64 x2, .slice p3 x3.length d3, .slice p4 x4.length d4, .slice p5 x5.length d5, .slice p6 x6.length d6, .slice p7 x7.length d7, .slice p8 x8.length d8] 29)) (fun _ _ h => h)))
  have HK : Hid (Keep (fun _ => False) w (w9.alloc (.cells #[.int .i64 x0, .int .i64 x1, .int .i64 x2, .slice p3 x3.length d3, .slice p4 x4.length d4, .slice p5 x5.length d5, .slice p6 x6.length d6, .slice p7 x7.length d7, .slice p8 x8.length d8] 29))) := Lib.hid ((((Keep.refl (fun _ => False) w).alloc (.cells #[.slice av bs.length cv, .bool false] 85)).trans K9.out (fun b e => .inr (by omega))).alloc _)
  have HP : Hid (PAt eWorld (fun b => w.heap.size ≤ b) (w9.alloc (.cells #[.int .i64 x0, .int .i64 x1, .int .i64 x2, .slice p3 x3.length d3, .slice p4 x4.length d4, .slice p5 x5.length d5, .slice p6 x6.length d6, .slice p7 x7.length d7, .slice p8 x8.length d8] 29)) (.pointer (some ⟨w9.heap.size, 0, none⟩)) (x0, x1, x2, x3, x4, x5, x6, x7, x8)) := Lib.hid (by
    have k9 := (Keep.refl (fun _ => False) w9).alloc (.cells #[.int .i64 x0, .int .i64 x1, .int .i64 x2, .slice p3 x3.length d3, .slice p4 x4.length d4, .slice p5 x5.length d5, .slice p6 x6.length d6, .slice p7 x7.length d7, .slice p8 x8.length d8] 29)
    have z9 := HSZ.out
    have z8 := K9.out.size
    refine ⟨w9.heap.size, 0, [Value.int .i64 x0, Value.int .i64 x1, Value.int .i64 x2, Value.slice p3 x3.length d3, Value.slice p4 x4.length d4, Value.slice p5 x5.length d5, Value.slice p6 x6.length d6, Value.slice p7 x7.length d7, Value.slice p8 x8.length d8], rfl, by rw [World.size_alloc]; omega, by omega, ⟨_, _, _, _, _, _, (L9x3.out.mono (fun b _ hb => Nat.le_of_lt hb)).keep k9 (fun _ _ _ h => h), (L9x4.out.mono (fun b _ hb => Nat.le_of_lt hb)).keep k9 (fun _ _ _ h => h), (L9x5.out.mono (fun b _ hb => Nat.le_of_lt hb)).keep k9 (fun _ _ _ h => h), (L9x6.out.mono (fun b _ hb => Nat.le_of_lt hb)).keep k9 (fun _ _ _ h => h), (L9x7.out.mono (fun b _ hb => Nat.le_of_lt hb)).keep k9 (fun _ _ _ h => h), (L9x8.out.mono (fun b _ hb => Nat.le_of_lt hb)).keep k9 (fun _ _ _ h => h), rfl⟩, fun j u hu => ?_⟩
    rw [Nat.zero_add, cell_of_row _ _ _ _ _ _ (heap_alloc_new w9 _)]; simpa using hu)
  rw [← HBB.out] at HE
  cases b with
  | true =>
    go_wp2_with fail
    refine HE.out.mono ?_
    rintro e w11 ⟨rfl, rfl⟩
    go_wp2
    go_ret2
    have hq : q = some (x0, x1, x2, x3, x4, x5, x6, x7, x8) := by simpa using HQ.out
    refine ⟨HK.out, fun W hW => ?_, fun h => ?_⟩
    · rw [hq] at hW
      rw [← Option.some.inj hW]
      exact ⟨_, _, rfl, HP.out⟩
    · rw [hq] at h; cases h
  | false =>
    go_wp2_with fail
    refine HE.out.mono ?_
    rintro e w11 ⟨rfl, rfl⟩
    go_wp2
    go_ret2
    have hq : q = none := by simpa using HQ.out
    refine ⟨HK.out, fun W hW => ?_, fun _ => rfl⟩
    rw [hq] at hW; cases hW

theorem Try.infoEvent : (Try.prog.info? 44).map (·.size) = some 4 := by kernel_rfl

set_option maxHeartbeats 2000000 in
theorem readEvent_any {w : World} {v : Value} {bs : List UInt8} (hs : Seen w 1 v bs.length (bcells bs)) (hv : ∀ b, own v b → b < w.heap.size) : Calls Try.prog 15 #[v] w (REvent w (whole 69 cEvent bs)) := by
  have kz := (Keep.refl (fun _ => False) w).alloc (.cells #[.int .i64 0, .string ⟨#[]⟩, .string ⟨#[]⟩, .slice none 0 0] 44)
  have H00 := Lib.hid (rd_new (w := w.alloc (.cells #[.int .i64 0, .string ⟨#[]⟩, .string ⟨#[]⟩, .slice none 0 0] 44)) (hs.keep kz (fun _ _ _ h => h)) (fun b hb => by have := hv b hb; rw [World.size_alloc]; omega))
  have HSZ : Hid ((w.alloc (.cells #[.int .i64 0, .string ⟨#[]⟩, .string ⟨#[]⟩, .slice none 0 0] 44)).heap.size = w.heap.size + 1 ∧ ((w.alloc (.cells #[.int .i64 0, .string ⟨#[]⟩, .string ⟨#[]⟩, .slice none 0 0] 44)).alloc (.cells #[v, .bool false] 85)).heap.size = w.heap.size + 1 + 1) := Lib.hid ⟨World.size_alloc .., by rw [World.size_alloc, World.size_alloc]⟩
  have HZ0 : Hid (((w.alloc (.cells #[.int .i64 0, .string ⟨#[]⟩, .string ⟨#[]⟩, .slice none 0 0] 44)).alloc (.cells #[v, .bool false] 85)).heap[w.heap.size]? = some (.cells #[.int .i64 0, .string ⟨#[]⟩, .string ⟨#[]⟩, .slice none 0 0] 44 (0, 0))) := Lib.hid ((((Keep.refl (fun _ => False) (w.alloc (.cells #[.int .i64 0, .string ⟨#[]⟩, .string ⟨#[]⟩, .slice none 0 0] 44))).alloc (.cells #[v, .bool false] 85)).block _ (by rw [World.size_alloc]; omega) (fun h => h)).trans (heap_alloc_new w _))
  rw [HSZ.out.1] at H00
  obtain ⟨S0, e00⟩ : ∃ S0, markD 69 ⟨bs, false⟩ = S0 := ⟨_, rfl⟩
  obtain ⟨x0, S1, e0⟩ : ∃ x S', decN S0 = (x, S') := ⟨_, _, rfl⟩
  obtain ⟨x1, S2, e1⟩ : ∃ x S', cT.dec S1 = (x, S') := ⟨_, _, rfl⟩
  obtain ⟨x2, S3, e2⟩ : ∃ x S', cT.dec S2 = (x, S') := ⟨_, _, rfl⟩
  obtain ⟨x3, S4, e3⟩ : ∃ x S', (cList cN).dec S3 = (x, S') := ⟨_, _, rfl⟩
  have E : whole 69 cEvent bs = if (!S4.br && decide (S4.rest.length = 0)) = true then some (x0, x1, x2, x3) else none := by
    simp only [whole, e00, cEvent, pair, cN_dec, e0, e1, e2, e3]
  generalize whole 69 cEvent bs = q at E ⊢
  obtain ⟨b, hb⟩ : ∃ b, b = (!S4.br && decide (S4.rest.length = 0)) := ⟨_, rfl⟩
  rw [← hb] at E
  have HQ := Lib.hid E
  have HBB := Lib.hid hb
  clear E hb
  have HM := Lib.hid (mark_any H00.out 69)
  rw [show (if (R.mk bs false).byte.1 = 69 then (R.mk bs false).byte.2 else (R.mk bs false).byte.2.fail) = S0 from e00] at HM
  have E0 := Lib.hid e0
  have E1 := Lib.hid e1
  have E2 := Lib.hid e2
  have E3 := Lib.hid e3
  clear kz e00 e0 e1 e2 e3
  obtain ⟨_, av, cv, rfl, _⟩ := hs
  go_enter Try.func15, Try.ntmps15
  go_wp2_with fail
  refine HM.out.mono ?_
  rintro e w0 ⟨rfl, hr, hk⟩
  have H0 := Lib.hid hr
  have K0 := Lib.hid hk
  clear hr hk
  go_wp2_with fail
  have C0 := nextInt_any H0.out
  rw [E0.out] at C0
  refine C0.mono ?_
  rintro e w1 ⟨rfl, hr, hk⟩
  have H1 := Lib.hid hr
  have K1 := Lib.hid (K0.out.trans hk)
  clear hr hk C0
  go_wp2_with fail
  have C1 := nextText_any H1.out
  rw [E1.out] at C1
  refine C1.mono ?_
  rintro e w2 ⟨rfl, hr, hk⟩
  have H2 := Lib.hid hr
  have K2 := Lib.hid (K1.out.trans hk)
  clear hr hk C1
  go_wp2_with fail
  have C2 := nextText_any H2.out
  rw [E2.out] at C2
  refine C2.mono ?_
  rintro e w3 ⟨rfl, hr, hk⟩
  have H3 := Lib.hid hr
  have K3 := Lib.hid (K2.out.trans hk)
  clear hr hk C2
  go_wp2_with fail
  have C3 := readListI_any H3.out (by have := K3.out.size; have := HSZ.out.1; have := HSZ.out.2; omega)
  rw [show (cList eI.c).dec S3 = _ from E3.out] at C3
  refine C3.mono ?_
  rintro e w4 ⟨v3, rfl, hl, hr, hk⟩
  have L4 : Hid (LAt eI (fun b => w.heap.size + 1 < b) w4 v3 x3) := Lib.hid (hl.mono (fun b _ hb => by have := K3.out.size; have := HSZ.out.2; omega))
  obtain ⟨p3, d3, rfl, _⟩ := hl.slice
  clear hl
  have H4 := Lib.hid hr
  have K4 := Lib.hid (K3.out.trans hk)
  clear hr hk C3
  have HE := Lib.hid (ended_any (H4.out.keep ((Keep.refl (fun _ => False) w4).alloc (.cells #[.int .i64 x0, .string x1, .string x2, .slice p3 x3.length d3] 44)) (fun _ _ h => h)))
  rw [← HBB.out] at HE
  have HK : Hid (Keep (fun _ => False) w (w4.alloc (.cells #[.int .i64 x0, .string x1, .string x2, .slice p3 x3.length d3] 44))) := Lib.hid (((((Keep.refl (fun _ => False) w).alloc (.cells #[.int .i64 0, .string ⟨#[]⟩, .string ⟨#[]⟩, .slice none 0 0] 44)).alloc (.cells #[.slice av bs.length cv, .bool false] 85)).trans K4.out (fun b e => .inr (by omega))).alloc _)
  have HN4 : Hid (w4.heap[w.heap.size]? = some (.cells #[.int .i64 0, .string ⟨#[]⟩, .string ⟨#[]⟩, .slice none 0 0] 44 (0, 0))) := Lib.hid ((K4.out.block _ (by have := HSZ.out.2; omega) (by omega)).trans HZ0.out)
  have HN5 : Hid ((w4.alloc (.cells #[.int .i64 x0, .string x1, .string x2, .slice p3 x3.length d3] 44)).heap[w.heap.size]? = some (.cells #[.int .i64 0, .string ⟨#[]⟩, .string ⟨#[]⟩, .slice none 0 0] 44 (0, 0))) := Lib.hid ((((Keep.refl (fun _ => False) w4).alloc (.cells #[.int .i64 x0, .string x1, .string x2, .slice p3 x3.length d3] 44)).block _ (lt_of_block HN4.out) (fun h => h)).trans HN4.out)
  have HNE := Lib.hid (heap_alloc_new w4 (.cells #[.int .i64 x0, .string x1, .string x2, .slice p3 x3.length d3] 44))
  have HI : Hid ((Try.prog.info? 44).map (·.size) = some ((#[.int .i64 x0, .string x1, .string x2, .slice p3 x3.length d3] : Array Value)).size) := Lib.hid Try.infoEvent
  have HI0 : Hid ((Try.prog.info? 44).map (·.size) = some ((#[.int .i64 0, .string ⟨#[]⟩, .string ⟨#[]⟩, .slice none 0 0] : Array Value)).size) := Lib.hid Try.infoEvent
  have HZV : Hid (∀ w : World, (zeroValue 44).run Try.prog w = .ok (.agg #[.int .i64 0, .string ⟨#[]⟩, .string ⟨#[]⟩, .slice none 0 0]) w) := Lib.hid (fun w => by kernel_rfl)
  go_wp2_with (first
      | (refine wpList_var_arr HZV HI.out (by rfl) (by simp [Value.oneCell']) rfl rfl rfl (.tmp 5) (.tmp 19) rfl rfl rfl ?_))
  refine HE.out.mono ?_
  rintro e w11 ⟨rfl, rfl⟩
  cases b with
  | true =>
    go_wp2_with (first
      | (refine wpList_load_arr Try.underlying44 rfl HI.out rfl (.tmp 5) rfl w4.heap.size rfl HNE.out ?_)
      | (refine wpList_store_arr HI.out (by rfl) (by simp [Value.oneCell']) rfl (.tmp 2) (.tmp 25) rfl w.heap.size rfl rfl HN5.out ?_; intro ws hws kss hss; have HW := Lib.hid hws; have HKS := Lib.hid kss; have HSS := Lib.hid hss; clear hws kss hss))
    refine bodyPost_ret (results_arr Try.results15 _ _ w.heap.size rfl HW.out Try.underlying44 rfl HI.out) rfl ?_
    have hq : q = some (x0, x1, x2, x3) := by simpa using HQ.out
    have k9 := (HK.out.trans HKS.out (fun b e => .inr (by omega)))
    refine ⟨k9, fun W hW => ?_, fun h => ?_⟩
    · rw [hq] at hW
      rw [← Option.some.inj hW]
      exact ⟨[Value.int .i64 x0, Value.string x1, Value.string x2, Value.slice p3 x3.length d3], rfl, ⟨_, ((L4.out.keep ((Keep.refl (fun _ => False) w4).alloc (.cells #[.int .i64 x0, .string x1, .string x2, .slice p3 x3.length d3] 44)) (fun _ _ _ h => h)).keep HKS.out (fun b hb _ e => by omega)).mono (fun b _ hb => by omega), rfl⟩⟩
    · rw [hq] at h; cases h
  | false =>
    go_wp2_with (first
      | (refine wpList_store_arr HI0.out (by rfl) (by simp [Value.oneCell']) rfl (.tmp 2) (.tmp 23) rfl w.heap.size rfl rfl HN5.out ?_; intro ws hws kss hss; have HW := Lib.hid hws; have HKS := Lib.hid kss; have HSS := Lib.hid hss; clear hws kss hss))
    refine bodyPost_ret (results_arr Try.results15 _ _ w.heap.size rfl HW.out Try.underlying44 rfl HI0.out) rfl ?_
    have hq : q = none := by simpa using HQ.out
    refine ⟨HK.out.trans HKS.out (fun b e => .inr (by omega)), fun W hW => ?_, fun _ => rfl⟩
    rw [hq] at hW; cases hW

end Go.Proofs.Ytpefkellcigpkaa.Cd
