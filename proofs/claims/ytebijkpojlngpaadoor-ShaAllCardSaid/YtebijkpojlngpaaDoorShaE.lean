/- What sha.mixAll does: all blocks mixed into a state. -/
import Derived.Test.YtebijkpojlngpaaDoorShaD
import Derived.Deep.RegionHeld3
namespace Go.Proofs.YtebijkpojlngpaaDoor.Sha
open Go.RowKit Go.Proofs.YtebijkpojlngpaaDoor
set_option maxRecDepth 100000

/-- A state's cells, written out. -/
def stC (s : St) : Array Value := #[.int .u32 (n32 s.a), .int .u32 (n32 s.b), .int .u32 (n32 s.c), .int .u32 (n32 s.d), .int .u32 (n32 s.e), .int .u32 (n32 s.f), .int .u32 (n32 s.g), .int .u32 (n32 s.h)]
theorem stC_eq (s : St) : stC s = wC (stL s) := rfl

theorem WAt.range {w : World} {t : TypeId} {g : Nat} {L : List UInt32} (h : WAt w t g L) : w.rangeAt g 0 (ucells L) := by
  intro j v hv
  rw [cell_of_row _ _ _ _ _ _ h, Nat.zero_add, wC]
  simpa using hv

theorem WAt.there {w : World} {t : TypeId} {g : Nat} {L : List UInt32} (h : WAt w t g L) (n : Nat) (hn : L.length = n) : w.there g 0 n := by
  intro j hj
  refine ⟨?_, h.free _⟩
  rw [Nat.zero_add, h.cell j (by omega)]; rfl

/-- A slice of what is read. -/
theorem seen_cut {w : World} {a : Option Addr} {n cap : Nat} {l : List UInt8} (h : Seen w 1 (.slice a n cap) n (bcells l)) (o m : Nat) (ho : o + m ≤ n) (hn : l.length = n) {g off : Nat} (ha : a = some ⟨g, off, none⟩) (c : Nat) (hc : m ≤ c) (hcm : c ≤ maxLen) :
    Seen w 1 (.slice (some ⟨g, off + o, none⟩) m c) m (bcells ((l.drop o).take m)) := by
  obtain ⟨h1, a', cap', hv, h2, h3, h4⟩ := h
  simp only [Value.slice.injEq] at hv
  obtain ⟨rfl, _, rfl⟩ := hv
  subst ha
  refine ⟨by simp [bcells]; omega, _, _, rfl, hc, hcm, ?_⟩
  rcases h4 with h4 | ⟨g', off', hg, hlt, hcell⟩
  · left; omega
  · simp only [Option.some.injEq, Addr.mk.injEq, and_true] at hg
    obtain ⟨rfl, rfl⟩ := hg
    refine .inr ⟨g, off + o, rfl, hlt, fun j u hu => ?_⟩
    have hjm : j < m := by
      have := (List.getElem?_eq_some_iff.1 hu).1
      simp [bcells] at this; omega
    have := hcell (o + j) u (by
      simp only [bcells, List.getElem?_map, List.getElem?_take, hjm, if_true, List.getElem?_drop] at hu ⊢
      exact hu)
    rw [Nat.add_assoc]; exact this

/-- A state's eight cells lie there, and may be written. -/
structure St8 (w : World) (B : Nat) (s : St) : Prop where
  c0 : w.cell? ⟨B, 0, none⟩ = some (.int .u32 (n32 s.a))
  c1 : w.cell? ⟨B, 1, none⟩ = some (.int .u32 (n32 s.b))
  c2 : w.cell? ⟨B, 2, none⟩ = some (.int .u32 (n32 s.c))
  c3 : w.cell? ⟨B, 3, none⟩ = some (.int .u32 (n32 s.d))
  c4 : w.cell? ⟨B, 4, none⟩ = some (.int .u32 (n32 s.e))
  c5 : w.cell? ⟨B, 5, none⟩ = some (.int .u32 (n32 s.f))
  c6 : w.cell? ⟨B, 6, none⟩ = some (.int .u32 (n32 s.g))
  c7 : w.cell? ⟨B, 7, none⟩ = some (.int .u32 (n32 s.h))
  f0 : w.frozen? ⟨B, 0, none⟩ = false
  f1 : w.frozen? ⟨B, 1, none⟩ = false
  f2 : w.frozen? ⟨B, 2, none⟩ = false
  f3 : w.frozen? ⟨B, 3, none⟩ = false
  f4 : w.frozen? ⟨B, 4, none⟩ = false
  f5 : w.frozen? ⟨B, 5, none⟩ = false
  f6 : w.frozen? ⟨B, 6, none⟩ = false
  f7 : w.frozen? ⟨B, 7, none⟩ = false

theorem WAt.st8 {w : World} {t : TypeId} {B : Nat} {s : St} (h : WAt w t B (stL s)) : St8 w B s :=
  ⟨h.cell 0 (by rw [stL_length]; omega), h.cell 1 (by rw [stL_length]; omega), h.cell 2 (by rw [stL_length]; omega), h.cell 3 (by rw [stL_length]; omega), h.cell 4 (by rw [stL_length]; omega), h.cell 5 (by rw [stL_length]; omega), h.cell 6 (by rw [stL_length]; omega), h.cell 7 (by rw [stL_length]; omega),
   h.free 0, h.free 1, h.free 2, h.free 3, h.free 4, h.free 5, h.free 6, h.free 7⟩

/-- Eight cells stored, one behind the other. -/
def World.set8 (w : World) (B : Nat) (s : St) : World :=
  (((((((w.setCell ⟨B, 0, none⟩ (.int .u32 (n32 s.a))).setCell ⟨B, 1, none⟩ (.int .u32 (n32 s.b))).setCell ⟨B, 2, none⟩ (.int .u32 (n32 s.c))).setCell ⟨B, 3, none⟩ (.int .u32 (n32 s.d))).setCell ⟨B, 4, none⟩ (.int .u32 (n32 s.e))).setCell ⟨B, 5, none⟩ (.int .u32 (n32 s.f))).setCell ⟨B, 6, none⟩ (.int .u32 (n32 s.g))).setCell ⟨B, 7, none⟩ (.int .u32 (n32 s.h))

theorem WAt.set8 {w : World} {t : TypeId} {B : Nat} {s : St} (h : WAt w t B (stL s)) (r : St) : WAt (World.set8 w B r) t B (stL r) :=
  ((((((((h.set 0 r.a).set 1 r.b).set 2 r.c).set 3 r.d).set 4 r.e).set 5 r.f).set 6 r.g).set 7 r.h)

theorem keep_set8 {F : Nat → Prop} {w0 w : World} {B : Nat} (r : St) (h : Keep F w0 w) (hB : F B ∨ w0.heap.size ≤ B) : Keep F w0 (World.set8 w B r) :=
  (((((((h.setCell _ _ hB).setCell _ _ hB).setCell _ _ hB).setCell _ _ hB).setCell _ _ hB).setCell _ _ hB).setCell _ _ hB).setCell _ _ hB

/-- mix, its arguments and results written out. -/
theorem mix_l {w : World} {v : Value} {s : St} {p : List UInt8} (hR : Roots w) (h : Seen w 1 v p.length (bcells p)) (hp : p.length = 64) :
    Calls Tryd.prog 16 #[.agg #[.int .u32 (n32 s.a), .int .u32 (n32 s.b), .int .u32 (n32 s.c), .int .u32 (n32 s.d), .int .u32 (n32 s.e), .int .u32 (n32 s.f), .int .u32 (n32 s.g), .int .u32 (n32 s.h)], v] w fun e w' => ∃ r : St, r = mixB s p ∧ e = .returned (.agg #[.int .u32 (n32 r.a), .int .u32 (n32 r.b), .int .u32 (n32 r.c), .int .u32 (n32 r.d), .int .u32 (n32 r.e), .int .u32 (n32 r.f), .int .u32 (n32 r.g), .int .u32 (n32 r.h)]) ∧ Keep (fun _ => False) w w' :=
  (mix_any hR h hp).mono fun _ _ ⟨h1, h2⟩ => ⟨_, rfl, h1, h2⟩

structure AllR (w1 : World) (B : Nat) (s : St) (b : List UInt8) (i : Value) (wr : World) : Prop where
  ex : ∃ k m : Nat, m = 64 * k ∧ m ≤ b.length ∧ i = .int .i64 (m : Int) ∧ Keep (fun x => x = B) w1 wr ∧ WAt wr 33 B (stL (mixN s b k))

theorem AllR.step {w1 w5 : World} {B k m : Nat} {s r' : St} {b : List UInt8} (hr : r' = mixN s b (k + 1)) (hm : m = 64 * k) (hb : m + 64 ≤ b.length) (hK : Keep (fun x => x = B) w1 w5) {r0 : St} (hW : WAt w5 33 B (stL r0)) :
    AllR w1 B s b (.int .i64 ((m : Int) + 64)) (World.set8 w5 B r') := by
  exact ⟨k + 1, m + 64, by omega, by omega, by rw [Int.natCast_add]; rfl, keep_set8 r' hK (.inl rfl), by rw [← hr]; exact hW.set8 r'⟩

set_option maxHeartbeats 2000000 in
theorem mixAll_any {w : World} {v : Value} {s : St} {b : List UInt8} (hR : Roots w) (h : Seen w 1 v b.length (bcells b)) (hb : b.length % 64 = 0) :
    Calls Tryd.prog 13 #[.agg (wC (stL s)), v] w fun e w' => e = .returned (.agg (wC (stL (mixL s b)))) ∧ Keep (fun _ => False) w w' := by
  obtain ⟨Lm, hM⟩ : ∃ Lm, Lm = stL (mixL s b) := ⟨_, rfl⟩
  have hLml : Lm.length = 8 := by rw [hM]; rfl
  have hb8 : (wC Lm).size = 8 := by rw [wC_size, hLml]
  rw [← hM]
  have HM := Lib.hid hM
  have HML := Lib.hid hLml
  clear hM hLml
  obtain ⟨Z, HZ, hZ⟩ := z8
  have HR := Lib.hid hR
  have hs8 : (wC (stL s)).size = 8 := rfl
  obtain ⟨C, hC⟩ : ∃ C, C = wC (stL s) := ⟨_, rfl⟩
  rw [← hC] at hs8 ⊢
  have HC := Lib.hid hC
  obtain ⟨n, hn⟩ : ∃ n, n = b.length := ⟨_, rfl⟩
  rw [← hn] at h hb
  have HS0 := Lib.hid h
  obtain ⟨_, ab, cap, rfl, hlc, hcm, _⟩ := h
  have hcm' : cap ≤ maxLen := hcm
  unfold maxLen at hcm
  have HN := Lib.hid hn
  have HB := Lib.hid hb
  have HCM := Lib.hid hcm'
  have K1 : Hid (Keep (fun _ => False) w ((w.alloc (.cells C 33)).alloc (.cells Z 33))) := Lib.hid (((Keep.refl _ w).alloc _).alloc _)
  have A1 : Hid (((w.alloc (.cells C 33)).alloc (.cells Z 33)).heap[w.heap.size]? = some (.cells C 33 (0, 0))) := Lib.hid (heap_alloc2_old w _ _)
  have B1 : Hid (((w.alloc (.cells C 33)).alloc (.cells Z 33)).heap[w.heap.size + 1]? = some (.cells Z 33 (0, 0))) := Lib.hid (heap_alloc2_new w _ _)
  clear hR hC hn hb hcm'
  go_enter Tryd.func13, Tryd.ntmps13
  go_wp2_with (first | (refine wpList_box_arr rfl _ rfl rfl ?_) | (refine wpList_alloc_arr HZ rfl rfl ?_))
  generalize (w.alloc (.cells C 33)).alloc (.cells Z 33) = w1 at *
  go_loopw [5] (fun i wr => AllR w1 w.heap.size s b i wr) (fun i _ => n - (intOf i).toNat)
  case atStart => exact ⟨0, 0, rfl, by omega, rfl, Keep.refl _ w1, by have := A1.out; rw [HC.out] at this; exact this⟩
  case round =>
    obtain ⟨k, m, hm, hk, rfl, hK, hW⟩ := hrel.ex
    clear hrel
    have HK := Lib.hid hK
    have HW := Lib.hid hW
    clear hK hW
    rw [← HN.out] at hk
    have HMK := Lib.hid hm
    clear hm
    by_cases hlt : m < n
    · have hm64 : m + 64 ≤ n := by have := HB.out; have := HMK.out; omega
      have HSr := Lib.hid ((HS0.out.keep K1.out (fun _ _ _ h => h)).keep HK.out (fun bb hbb hlt2 e => by
        rcases HS0.out.2 with ⟨a', c', hv, _, _, h4⟩
        simp only [Value.slice.injEq] at hv
        obtain ⟨rfl, _, rfl⟩ := hv
        rcases h4 with h4 | ⟨g', off', hg, hlt', _⟩
        · have := HN.out; omega
        · subst hg; simp [Value.ownBlock] at hbb; omega))
      obtain ⟨g, o, rfl, HG⟩ : ∃ g o, ab = some ⟨g, o, none⟩ ∧ Hid (g < w.heap.size) := by
        rcases HS0.out.2 with ⟨a', c', hv, _, _, h4⟩
        simp only [Value.slice.injEq] at hv
        obtain ⟨rfl, _, rfl⟩ := hv
        rcases h4 with h4 | ⟨g', off', hg, hlt', _⟩
        · have := HN.out; omega
        · exact ⟨g', off', hg, Lib.hid hlt'⟩
      have hsc := fun w9 (k9 : Keep (fun _ => False) wr w9) => seen_cut (HSr.out.keep k9 (fun _ _ _ h => h)) m 64 (by omega) HN.out.symm rfl (cap - m) (by omega) (by have := HCM.out; omega)
      have HPL : Hid (((b.drop m).take 64).length = 64) := Lib.hid (by rw [List.length_take, List.length_drop]; have := HN.out; omega)
      have HRr := Lib.hid ((HR.out.keep K1.out (fun h => h)).keep HK.out (fun e => by have := HR.out.lt; omega))
      have HMX : Hid (∀ (w9 : World), Keep (fun _ => False) wr w9 → _) := Lib.hid (fun w9 k9 => mix_l (s := mixN s b k) (HRr.out.keep k9 (fun h => h)) (by rw [HPL.out]; exact hsc w9 k9) HPL.out)
      obtain ⟨r, hr⟩ : ∃ r, r = mixN s b k := ⟨_, rfl⟩
      have HE : Hid (∀ r', r' = mixB r ((b.drop m).take 64) → r' = mixN s b (k + 1)) := Lib.hid (by rintro r' rfl; rw [mixN, hr, HMK.out])
      have HW' := HW
      rw [← hr] at HMX HW'
      have HC8 := Lib.hid HW'.out.st8
      obtain ⟨q0, q1, q2, q3, q4, q5, q6, q7, -⟩ := HW'.out.st8
      have hi1 : (m : Int) + 64 ≤ (cap : Int) := by omega
      have hw1 : IntKind.i64.wrap ((m : Int) + 64) = (m : Int) + 64 := by simp [IntKind.wrap, IntKind.bits, IntKind.signed]; omega
      have hne : ¬ cap = m := by omega
      have e1 : ((m : Int) + 64).toNat = m + 64 := by omega
      have e2 : m + 64 - m = 64 := by omega
      have e3 : (0 : Int) ≤ (m : Int) := by omega
      have e4 : (m : Int) ≤ (m : Int) + 64 := by omega
      clear hr hsc
      go_wp2_with fail
      go_region_with (first | (go_at_call 16; (with_reducible refine (HMX.out _ ((Keep.refl (fun _ => False) wr).drew)).mono ?_); rintro e w5 ⟨r', hr', rfl, k5⟩; have HR5 := Lib.hid (HE.out r' hr'); have k6 : Keep (fun _ => False) wr w5 := ((Keep.refl (fun _ => False) wr).drew).trans k5 (fun _ h => h.elim); have K6 := Lib.hid k6; have HW5 := Lib.hid (HW'.out.keep k6 (fun h => h)); obtain ⟨d0, d1, d2, d3, d4, d5, d6, d7, g0, g1, g2, g3, g4, g5, g6, g7⟩ := HW5.out.st8; clear hr' k5 k6))
      have KW := Lib.hid (HK.out.trans K6.out (fun _ h => h.elim))
      go_wp2
      go_roundw
      case rel =>
        (repeat apply Exists.intro)
        exact AllR.step HR5.out HMK.out (by have := HN.out; omega) KW.out HW5.out
      case measure => simp [intOf]; omega
    · obtain rfl : m = n := by omega
      have hkn : k = b.length / 64 := by have := HMK.out; have := HN.out; omega
      have HF : Hid (WAt wr 33 w.heap.size Lm) := Lib.hid (by rw [HM.out, mixL, ← hkn]; exact HW.out)
      have HB5 : Hid (wr.heap[w.heap.size + 1]? = some (.cells Z 33 (0, 0))) := Lib.hid ((HK.out.block _ (lt_of_block B1.out) (by omega)).trans B1.out)
      clear hkn
      go_wp2_with (first | (refine wpList_load_arr Tryd.underlying33 rfl (by rw [hb8]; exact Tryd.info8) rfl _ rfl w.heap.size rfl HF.out ?_) | (refine wpList_store_arr (by rw [hb8]; exact Tryd.info8) (by rw [hb8, hZ]) (wC_one _) rfl _ _ rfl (w.heap.size + 1) rfl rfl HB5.out ?_; intro w7 h7 k7 z7; have H7 := Lib.hid h7; have K7 := Lib.hid k7; clear h7 k7 z7))
      refine bodyPost_ret (results_arr1 Tryd.results13 _ _ (w.heap.size + 1) rfl H7.out Tryd.underlying33 rfl (by rw [hb8]; exact Tryd.info8)) rfl ?_
      exact ⟨rfl, (K1.out.trans HK.out (fun b e => .inr (by omega))).trans K7.out (fun b e => .inr (by omega))⟩

end Go.Proofs.YtebijkpojlngpaaDoor.Sha
