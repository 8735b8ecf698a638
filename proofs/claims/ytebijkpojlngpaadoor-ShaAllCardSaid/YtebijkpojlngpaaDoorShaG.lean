/- What sha.Sum does. -/
import Derived.Test.YtebijkpojlngpaaDoorShaF
namespace Go.Proofs.YtebijkpojlngpaaDoor.Sha
open Go.RowKit Go.Proofs.YtebijkpojlngpaaDoor
set_option maxRecDepth 100000

theorem mixN_left (s : St) (x y : List UInt8) : ∀ k, 64 * k ≤ x.length → mixN s (x ++ y) k = mixN s x k
  | 0, _ => rfl
  | k + 1, h => by
    rw [mixN, mixN, mixN_left s x y k (by omega)]
    congr 1
    rw [List.drop_append_of_le_length (by omega), List.take_append_of_le_length (by rw [List.length_drop]; omega)]

theorem mixN_right (s : St) (x y : List UInt8) (q : Nat) (hx : x.length = 64 * q) : ∀ k, mixN s (x ++ y) (q + k) = mixN (mixN s x q) y k
  | 0 => mixN_left s x y q (by omega)
  | k + 1 => by
    rw [← Nat.add_assoc, mixN, mixN, mixN_right s x y q hx k]
    congr 2
    rw [List.drop_append, List.drop_eq_nil_of_le (by omega), List.nil_append]
    congr 1; omega

theorem mixL_append (s : St) (x y : List UInt8) (h : x.length % 64 = 0) : mixL s (x ++ y) = mixL (mixL s x) y := by
  have hq : x.length = 64 * (x.length / 64) := by omega
  unfold mixL
  rw [List.length_append, show (x.length + y.length) / 64 = x.length / 64 + y.length / 64 by omega]
  exact mixN_right s x y _ hq _

theorem padded_cut (b : List UInt8) (wh : Nat) (h : wh = b.length - b.length % 64) : padded b = b.take wh ++ endL (b.drop wh) b.length := by
  unfold padded endL
  rw [← List.append_assoc, List.take_append_drop]

theorem sum_cut (b : List UInt8) (wh : Nat) (h : wh = b.length - b.length % 64) : mixL (mixL iv (b.take wh)) (endL (b.drop wh) b.length) = mixL iv (padded b) := by
  rw [padded_cut b wh h, mixL_append]
  rw [List.length_take]; omega

theorem endL_length (r : List UInt8) (n : Nat) (h : r.length = n % 64) : (endL r n).length % 64 = 0 := by
  have h1 := endK_length r n 8 (by omega)
  rw [endK_full] at h1
  rw [h1, h]; unfold zerosN; omega

/-- What of a slice is read ahead of a place. -/
theorem seen_head {w : World} {a : Option Addr} {n cap h : Nat} {l : List UInt8} (hs : Seen w 1 (.slice a n cap) n (bcells l)) (hh : h ≤ n) (hn : l.length = n) : Seen w 1 (.slice a h cap) h (bcells (l.take h)) := by
  obtain ⟨h1, a', cap', hv, h2, h3, h4⟩ := hs
  simp only [Value.slice.injEq] at hv
  obtain ⟨rfl, _, rfl⟩ := hv
  refine ⟨by simp [bcells]; omega, _, _, rfl, by omega, h3, ?_⟩
  rcases h4 with h4 | ⟨g, off, hg, hlt, hc⟩
  · left; omega
  · refine .inr ⟨g, off, hg, hlt, fun j u hu => hc j u ?_⟩
    simp only [bcells, List.map_take, List.getElem?_take] at hu
    split at hu
    · exact hu
    · cases hu

/-- Where a slice's tail lies. -/
def tailA (a : Option Addr) (cap l : Nat) : Option Addr := if cap = l then a else a.map (·.add (l * 1))

/-- What of a slice is read from a place on. -/
theorem seen_tail {w : World} {a : Option Addr} {n cap o : Nat} {l : List UInt8} (hs : Seen w 1 (.slice a n cap) n (bcells l)) (ho : o ≤ n) (hn : l.length = n) : Seen w 1 (.slice (tailA a cap o) (n - o) (cap - o)) (n - o) (bcells (l.drop o)) := by
  obtain ⟨h1, a', cap', hv, h2, h3, h4⟩ := hs
  simp only [Value.slice.injEq] at hv
  obtain ⟨rfl, _, rfl⟩ := hv
  refine ⟨by simp [bcells]; omega, _, _, rfl, by omega, by omega, ?_⟩
  by_cases h0 : n - o = 0
  · exact .inl h0
  · rcases h4 with h4 | ⟨g, off, rfl, hlt, hc⟩
    · omega
    · refine .inr ⟨g, off + o, ?_, hlt, fun j u hu => ?_⟩
      · rw [tailA, if_neg (by omega), Nat.mul_one, Option.map_some, add_off]
      · rw [Nat.add_assoc]
        refine hc (o + j) u ?_
        simp only [bcells, List.map_drop, List.getElem?_drop] at hu ⊢
        exact hu

theorem run_head (ab : Option Addr) (n cap h : Nat) (hh : h ≤ cap) (w : World) : (Instr.slice 22 (.slice ab n cap) none (some (.int .i64 (h : Int))) none).run Tryd.prog w = .ok (.slice ab h cap) w := by
  obtain ⟨i, hi', hsz⟩ := Option.map_eq_some_iff.1 Tryd.infoU8
  have hru : (sizeOf 5).run Tryd.prog w = .ok 1 w := by simp [sizeOf, run_typeInfo w hi', hsz]
  have b1 : (0 : Int) ≤ (h : Int) ∧ (h : Int) ≤ (cap : Int) := by omega
  simp only [Instr.slice, Sem.run_bind, run_underlying Tryd.underlying22, Instr.sliceBounds, Sem.run_pure, Result.andThen_ok, Instr.sliceBound, asIntOf, if_pos b1, hru, Int.toNat_natCast, Nat.zero_mul, Nat.sub_zero]
  cases ab <;> simp [Addr.add]

theorem run_tail (ab : Option Addr) (n cap l : Nat) (hl : l ≤ n) (w : World) : (Instr.slice 22 (.slice ab n cap) (some (.int .i64 (l : Int))) none none).run Tryd.prog w = .ok (.slice (tailA ab cap l) (n - l) (cap - l)) w := by
  obtain ⟨i, hi', hsz⟩ := Option.map_eq_some_iff.1 Tryd.infoU8
  have hru : (sizeOf 5).run Tryd.prog w = .ok 1 w := by simp [sizeOf, run_typeInfo w hi', hsz]
  have b1 : (0 : Int) ≤ (l : Int) ∧ (l : Int) ≤ (n : Int) := by omega
  simp only [Instr.slice, Sem.run_bind, run_underlying Tryd.underlying22, Instr.sliceBounds, Sem.run_pure, Result.andThen_ok, Instr.sliceBound, asIntOf, if_pos b1, hru, Int.toNat_natCast, tailA]

/-- mixAll, its arguments and results written out. -/
theorem mixAll_l {w : World} {v : Value} {s : St} {b : List UInt8} (hR : Roots w) (h : Seen w 1 v b.length (bcells b)) (hb : b.length % 64 = 0) :
    Calls Tryd.prog 13 #[.agg #[.int .u32 (n32 s.a), .int .u32 (n32 s.b), .int .u32 (n32 s.c), .int .u32 (n32 s.d), .int .u32 (n32 s.e), .int .u32 (n32 s.f), .int .u32 (n32 s.g), .int .u32 (n32 s.h)], v] w fun e w' => ∃ r : St, r = mixL s b ∧ e = .returned (.agg #[.int .u32 (n32 r.a), .int .u32 (n32 r.b), .int .u32 (n32 r.c), .int .u32 (n32 r.d), .int .u32 (n32 r.e), .int .u32 (n32 r.f), .int .u32 (n32 r.g), .int .u32 (n32 r.h)]) ∧ Keep (fun _ => False) w w' :=
  (mixAll_any hR h hb).mono fun _ _ ⟨h1, h2⟩ => ⟨_, rfl, h1, h2⟩

theorem Tryd.zero32b (w : World) : (zeroValue 25).run Tryd.prog w = .ok (.agg (bcells (List.replicate 32 0)).toArray) w := by kernel_rfl
theorem Tryd.info32b : (Tryd.prog.info? 25).map (·.size) = some 32 := by kernel_rfl

/-- Bytes as an array's cells. -/
def bC (l : List UInt8) : Array Value := (bcells l).toArray
theorem bC_size (l : List UInt8) : (bC l).size = l.length := by simp [bC, bcells_length]
theorem bC_one (l : List UInt8) : (bC l).all (·.oneCell') = true := by
  rw [Array.all_eq_true_iff_forall_mem]
  intro x hx
  exact bcells_one l x (by simpa [bC] using hx)

theorem z32 : ∃ Z : Array Value, Hid (∀ w : World, (zeroValue 25).run Tryd.prog w = .ok (.agg Z) w) ∧ Z.size = 32 ∧ Hid (Z = bC (List.replicate 32 0)) :=
  ⟨_, Lib.hid Tryd.zero32b, by simp [bcells_length], Lib.hid rfl⟩

/-- An array of bytes lies in a block of its own. -/
def BAt (w : World) (t : TypeId) (g : Nat) (L : List UInt8) : Prop := w.heap[g]? = some (.cells (bC L) t (0, 0))
theorem BAt.keep {F : Nat → Prop} {w w' : World} {t : TypeId} {g : Nat} {L : List UInt8} (h : BAt w t g L) (k : Keep F w w') (hF : ¬ F g) : BAt w' t g L := (k.block g (lt_of_block h) hF).trans h
theorem BAt.cell {w : World} {t : TypeId} {g : Nat} {L : List UInt8} (h : BAt w t g L) (j : Nat) (hj : j < L.length) : w.cell? ⟨g, j, none⟩ = some (.int .u8 ((L[j].toNat : Nat) : Int)) := by
  rw [cell_of_row _ _ _ _ _ _ h, bC]
  simp [bcells, List.getElem?_eq_getElem hj]
theorem BAt.free {w : World} {t : TypeId} {g : Nat} {L : List UInt8} (h : BAt w t g L) (j : Nat) : w.frozen? ⟨g, j, none⟩ = false := frozen_of_row _ _ _ _ _ h
theorem BAt.set {w : World} {t : TypeId} {g : Nat} {L : List UInt8} (h : BAt w t g L) (j : Nat) (x : UInt8) : BAt (w.setCell ⟨g, j, none⟩ (.int .u8 ((x.toNat : Nat) : Int))) t g (L.set j x) := by
  unfold BAt
  rw [heap_setCell_at _ h]
  congr 2
  rw [bC, bC, List.setIfInBounds_toArray, bcells_set]

/-- The first k words' bytes of an array of 32. -/
def digK (L : List UInt32) (k : Nat) : List UInt8 := (L.take k).flatMap word4 ++ List.replicate (32 - 4 * k) 0
theorem flat4_length : ∀ (L : List UInt32), (L.flatMap word4).length = 4 * L.length
  | [] => rfl
  | x :: L => by simp [List.flatMap_cons, flat4_length L, word4]; omega
theorem digK_length (L : List UInt32) (k : Nat) (h : L.length = 8) (hk : k ≤ 8) : (digK L k).length = 32 := by
  rw [digK, List.length_append, flat4_length, List.length_replicate, List.length_take]; omega
theorem digK_set (L : List UInt32) (k : Nat) (h : L.length = 8) (hk : k < 8) :
    ((((digK L k).set (4 * k) (L.getD k 0 >>> 24).toUInt8).set (4 * k + 1) (L.getD k 0 >>> 16).toUInt8).set (4 * k + 2) (L.getD k 0 >>> 8).toUInt8).set (4 * k + 3) (L.getD k 0).toUInt8 = digK L (k + 1) := by
  have hl : ((L.take k).flatMap word4).length = 4 * k := by rw [flat4_length]; simp [h]; omega
  have e : L.take (k + 1) = L.take k ++ [L.getD k 0] := by
    rw [List.take_succ_eq_append_getElem (by omega)]
    simp [List.getD_eq_getElem?_getD, List.getElem?_eq_getElem (show k < L.length by omega)]
  unfold digK
  rw [e, List.flatMap_append, List.append_assoc]
  have hset : ∀ (j : Nat) (x : UInt8) (t : List UInt8), ((L.take k).flatMap word4 ++ t).set (4 * k + j) x = (L.take k).flatMap word4 ++ t.set j x := by
    intro j x t
    rw [List.set_append_right _ _ (by omega), hl, Nat.add_sub_cancel_left]
  have h0 := fun x t => hset 0 x t
  simp only [Nat.add_zero] at h0
  rw [h0, hset, hset, hset]
  congr 1
  rw [show 32 - 4 * k = (32 - 4 * (k + 1)) + 1 + 1 + 1 + 1 by omega]
  simp [List.replicate_succ, word4]

theorem by_24 (x : UInt32) : n32 x / (16777216 : Int) % (256 : Int) = (((x >>> 24).toUInt8.toNat : Nat) : Int) := by
  rw [show n32 x / (16777216 : Int) = n32 (x >>> 24) from n32_shr x 24 (by omega)]; unfold n32; rw [UInt32.toNat_toUInt8]; omega
theorem by_16 (x : UInt32) : n32 x / (65536 : Int) % (256 : Int) = (((x >>> 16).toUInt8.toNat : Nat) : Int) := by
  rw [show n32 x / (65536 : Int) = n32 (x >>> 16) from n32_shr x 16 (by omega)]; unfold n32; rw [UInt32.toNat_toUInt8]; omega
theorem by_8 (x : UInt32) : n32 x / (256 : Int) % (256 : Int) = (((x >>> 8).toUInt8.toNat : Nat) : Int) := by
  rw [show n32 x / (256 : Int) = n32 (x >>> 8) from n32_shr x 8 (by omega)]; unfold n32; rw [UInt32.toNat_toUInt8]; omega
theorem by_0 (x : UInt32) : n32 x % (256 : Int) = ((x.toUInt8.toNat : Nat) : Int) := by
  unfold n32; rw [UInt32.toNat_toUInt8]; omega

attribute [-go_sem] Go.run_slice_h Go.run_slice_l Go.run_slice_any

structure SumR (w1 : World) (B : Nat) (L : List UInt32) (i : Value) (wr : World) : Prop where
  ex : ∃ k : Nat, k ≤ 8 ∧ i = .int .i64 (k : Int) ∧ Keep (fun x => x = B) w1 wr ∧ BAt wr 25 B (digK L k)

theorem SumR.step {w1 wr : World} {B k q : Nat} {L : List UInt32} {x : UInt32} {b0 b1 b2 b3 : UInt8} (hk : k < 8) (hL : L.length = 8) (hx : x = L.getD k 0) (hq : q = 4 * k) (hK : Keep (fun x => x = B) w1 wr) (hC : BAt wr 25 B (digK L k))
    (h0 : b0 = (x >>> 24).toUInt8) (h1 : b1 = (x >>> 16).toUInt8) (h2 : b2 = (x >>> 8).toUInt8) (h3 : b3 = x.toUInt8) :
    SumR w1 B L (.int .i64 ((k : Int) + 1)) ((((wr.setCell ⟨B, q, none⟩ (.int .u8 ((b0.toNat : Nat) : Int))).setCell ⟨B, q + 1, none⟩ (.int .u8 ((b1.toNat : Nat) : Int))).setCell ⟨B, q + 2, none⟩ (.int .u8 ((b2.toNat : Nat) : Int))).setCell ⟨B, q + 3, none⟩ (.int .u8 ((b3.toNat : Nat) : Int))) := by
  have h := (((hC.set q b0).set (q + 1) b1).set (q + 2) b2).set (q + 3) b3
  rw [h0, h1, h2, h3, hx, hq, digK_set L k hL hk] at h
  rw [← hq, ← hx, ← h0, ← h1, ← h2, ← h3] at h
  exact ⟨k + 1, by omega, by rw [Int.natCast_add]; rfl, (((hK.setCell _ _ (.inl rfl)).setCell _ _ (.inl rfl)).setCell _ _ (.inl rfl)).setCell _ _ (.inl rfl), h⟩

set_option maxHeartbeats 2000000 in
theorem sum_any {w : World} {v : Value} {b : List UInt8} (hR : Roots w) (h : Seen w 1 v b.length (bcells b)) (hb : b.length < 1000000000000000000) :
    Calls Tryd.prog 7 #[v] w fun e w' => e = .returned (.agg (bC (sumOf b))) ∧ Keep (fun _ => False) w w' := by
  obtain ⟨D, hD⟩ : ∃ D, D = sumOf b := ⟨_, rfl⟩
  have hDl : D.length = 32 := by rw [hD]; rfl
  have hDs : (bC D).size = 32 := by rw [bC_size, hDl]
  rw [← hD]
  have HD := Lib.hid hD
  clear hD
  obtain ⟨Z, HZ, hZ, HZZ⟩ := z32
  obtain ⟨Z8, HZ8, hZ8⟩ := z8
  have HR := Lib.hid hR
  obtain ⟨n, hn⟩ : ∃ n, n = b.length := ⟨_, rfl⟩
  have HN := Lib.hid hn
  rw [← hn] at h hb
  have HS := Lib.hid h
  obtain ⟨_, ab, cap, rfl, hlc, hcm, _⟩ := h
  unfold maxLen at hcm
  obtain ⟨rm, hrm⟩ : ∃ rm, rm = n % 64 := ⟨_, rfl⟩
  obtain ⟨wh, hwh⟩ : ∃ wh, wh = n - rm := ⟨_, rfl⟩
  have e1 : (n : Int) % 64 = (rm : Int) := by omega
  have e2 : (n : Int) - (rm : Int) = (wh : Int) := by omega
  have hwn : wh ≤ n := by omega
  have hst1 := run_head ab n cap wh (by omega)
  have hst2 := run_tail ab n cap wh hwn
  obtain ⟨a2, ha2⟩ : ∃ a2, a2 = tailA ab cap wh := ⟨_, rfl⟩
  rw [← ha2] at hst2
  obtain ⟨r2, hr2⟩ : ∃ r2, r2 = n - wh := ⟨_, rfl⟩
  obtain ⟨cp2, hcp2⟩ : ∃ cp2, cp2 = cap - wh := ⟨_, rfl⟩
  rw [← hr2, ← hcp2] at hst2
  have HX1 := Lib.hid (fun (w9 : World) (k9 : Keep (fun _ => False) w w9) => seen_head (HS.out.keep k9 (fun _ _ _ h => h)) hwn HN.out.symm)
  have hx2 := fun (w9 : World) (k9 : Keep (fun _ => False) w w9) => seen_tail (HS.out.keep k9 (fun _ _ _ h => h)) hwn HN.out.symm
  rw [← ha2, ← hr2, ← hcp2] at hx2
  have HX2 := Lib.hid hx2
  have HL1 : Hid ((b.take wh).length = wh) := Lib.hid (by rw [List.length_take]; have := HN.out; omega)
  have HL2 : Hid ((b.drop wh).length = r2) := Lib.hid (by rw [List.length_drop]; have := HN.out; omega)
  have HW64 : Hid (wh % 64 = 0 ∧ wh = b.length - b.length % 64 ∧ r2 = n % 64) := Lib.hid (by have := HN.out; omega)
  clear hn hrm hwh ha2 hr2 hcp2 hx2 hR
  go_enter Tryd.func7, Tryd.ntmps7
  go_wp2_with (first | (refine wpList_alloc_arr HZ rfl rfl ?_))
  have K2 : Hid (Keep (fun _ => False) w ((w.alloc (.cells Z 25)).alloc (.cells (wC (stL iv)) 33))) := Lib.hid (((Keep.refl _ w).alloc _).alloc _)
  have A2 : Hid (WAt ((w.alloc (.cells Z 25)).alloc (.cells (wC (stL iv)) 33)) 33 (w.heap.size + 1) (stL iv)) := Lib.hid (heap_alloc2_new w _ _)
  have B2 : Hid (((w.alloc (.cells Z 25)).alloc (.cells (wC (stL iv)) 33)).heap[w.heap.size]? = some (.cells Z 25 (0, 0))) := Lib.hid (heap_alloc2_old w _ _)
  have hwc : wC (stL iv) = #[.int .u32 1779033703, .int .u32 3144134277, .int .u32 1013904242, .int .u32 2773480762, .int .u32 1359893119, .int .u32 2600822924, .int .u32 528734635, .int .u32 1541459225] := by kernel_rfl
  rw [hwc] at K2 A2 B2
  clear hwc
  generalize (w.alloc (.cells Z 25)).alloc (.cells #[.int .u32 1779033703, .int .u32 3144134277, .int .u32 1013904242, .int .u32 2773480762, .int .u32 1359893119, .int .u32 2600822924, .int .u32 528734635, .int .u32 1541459225] 33) = w2 at *
  obtain ⟨s0, hs0⟩ : ∃ s0, s0 = iv := ⟨_, rfl⟩
  rw [← hs0] at A2
  have HS0 := Lib.hid hs0
  obtain ⟨q0, q1, q2, q3, q4, q5, q6, q7, -⟩ := A2.out.st8
  have HMX := Lib.hid (fun (w9 : World) (k9 : Keep (fun _ => False) w2 w9) => mixAll_l (v := .slice ab wh cap) (b := b.take wh) (s := s0) (HR.out.keep (K2.out.trans k9 (fun _ h => h.elim)) (fun h => h)) (by rw [HL1.out]; exact HX1.out w9 (K2.out.trans k9 (fun _ h => h.elim))) (by rw [HL1.out]; exact HW64.out.1))
  clear hs0
  go_region_with (first | (go_at_call 13; (with_reducible refine (HMX.out _ ((Keep.refl (fun _ => False) w2).drew)).mono ?_); rintro e w5 ⟨r', hr', rfl, k5⟩; have HR5 := Lib.hid hr'; have k6 : Keep (fun _ => False) w2 w5 := ((Keep.refl (fun _ => False) w2).drew).trans k5 (fun _ h => h.elim); have K6 := Lib.hid k6; have HW5 := Lib.hid (A2.out.keep k6 (fun h => h)); obtain ⟨d0, d1, d2, d3, d4, d5, d6, d7, g0, g1, g2, g3, g4, g5, g6, g7⟩ := HW5.out.st8; clear hr' k5 k6))
  have K7 : Hid (Keep (fun _ => False) w (((((((((w5.setCell ⟨w.heap.size + 1, 0, none⟩ (.int .u32 (n32 r'.a))).setCell ⟨w.heap.size + 1, 1, none⟩ (.int .u32 (n32 r'.b))).setCell ⟨w.heap.size + 1, 2, none⟩ (.int .u32 (n32 r'.c))).setCell ⟨w.heap.size + 1, 3, none⟩ (.int .u32 (n32 r'.d))).setCell ⟨w.heap.size + 1, 4, none⟩ (.int .u32 (n32 r'.e))).setCell ⟨w.heap.size + 1, 5, none⟩ (.int .u32 (n32 r'.f))).setCell ⟨w.heap.size + 1, 6, none⟩ (.int .u32 (n32 r'.g))).setCell ⟨w.heap.size + 1, 7, none⟩ (.int .u32 (n32 r'.h))))) := Lib.hid (keep_set8 r' (K2.out.trans K6.out (fun _ h => h.elim)) (.inr (by omega)))
  have A7 : Hid (WAt (((((((((w5.setCell ⟨w.heap.size + 1, 0, none⟩ (.int .u32 (n32 r'.a))).setCell ⟨w.heap.size + 1, 1, none⟩ (.int .u32 (n32 r'.b))).setCell ⟨w.heap.size + 1, 2, none⟩ (.int .u32 (n32 r'.c))).setCell ⟨w.heap.size + 1, 3, none⟩ (.int .u32 (n32 r'.d))).setCell ⟨w.heap.size + 1, 4, none⟩ (.int .u32 (n32 r'.e))).setCell ⟨w.heap.size + 1, 5, none⟩ (.int .u32 (n32 r'.f))).setCell ⟨w.heap.size + 1, 6, none⟩ (.int .u32 (n32 r'.g))).setCell ⟨w.heap.size + 1, 7, none⟩ (.int .u32 (n32 r'.h)))) 33 (w.heap.size + 1) (stL r')) := Lib.hid (HW5.out.set8 r')
  have B7 : Hid ((((((((((w5.setCell ⟨w.heap.size + 1, 0, none⟩ (.int .u32 (n32 r'.a))).setCell ⟨w.heap.size + 1, 1, none⟩ (.int .u32 (n32 r'.b))).setCell ⟨w.heap.size + 1, 2, none⟩ (.int .u32 (n32 r'.c))).setCell ⟨w.heap.size + 1, 3, none⟩ (.int .u32 (n32 r'.d))).setCell ⟨w.heap.size + 1, 4, none⟩ (.int .u32 (n32 r'.e))).setCell ⟨w.heap.size + 1, 5, none⟩ (.int .u32 (n32 r'.f))).setCell ⟨w.heap.size + 1, 6, none⟩ (.int .u32 (n32 r'.g))).setCell ⟨w.heap.size + 1, 7, none⟩ (.int .u32 (n32 r'.h)))).heap[w.heap.size]? = some (.cells Z 25 (0, 0))) := Lib.hid
    (((keep_set8 (F := fun x => x = w.heap.size + 1) r' (K6.out.mono (fun _ _ h => h.elim)) (.inl rfl)).block _ (lt_of_block B2.out) (by omega)).trans B2.out)
  clear q0 q1 q2 q3 q4 q5 q6 q7 d0 d1 d2 d3 d4 d5 d6 d7 g0 g1 g2 g3 g4 g5 g6 g7
  generalize ((((((((w5.setCell ⟨w.heap.size + 1, 0, none⟩ (.int .u32 (n32 r'.a))).setCell ⟨w.heap.size + 1, 1, none⟩ (.int .u32 (n32 r'.b))).setCell ⟨w.heap.size + 1, 2, none⟩ (.int .u32 (n32 r'.c))).setCell ⟨w.heap.size + 1, 3, none⟩ (.int .u32 (n32 r'.d))).setCell ⟨w.heap.size + 1, 4, none⟩ (.int .u32 (n32 r'.e))).setCell ⟨w.heap.size + 1, 5, none⟩ (.int .u32 (n32 r'.f))).setCell ⟨w.heap.size + 1, 6, none⟩ (.int .u32 (n32 r'.g))).setCell ⟨w.heap.size + 1, 7, none⟩ (.int .u32 (n32 r'.h))) = w7 at *
  obtain ⟨q0, q1, q2, q3, q4, q5, q6, q7, -⟩ := A7.out.st8
  have HEN := Lib.hid (fun (w9 : World) (k9 : Keep (fun _ => False) w7 w9) => ending_any (v := .slice a2 r2 cp2) (r := b.drop wh) (w := w9) (by rw [HL2.out]; exact HX2.out w9 (K7.out.trans k9 (fun _ h => h.elim))) n hb (by rw [HL2.out]; exact HW64.out.2.2))
  have HEL : Hid ((endL (b.drop wh) n).length % 64 = 0) := Lib.hid (endL_length _ _ (by rw [HL2.out]; exact HW64.out.2.2))
  have HMY := Lib.hid (fun (w9 : World) (k9 : Keep (fun _ => False) w7 w9) (u : Value) (hu : Seen w9 1 u (endL (b.drop wh) n).length (bcells (endL (b.drop wh) n))) => mixAll_l (s := r') (HR.out.keep (K7.out.trans k9 (fun _ h => h.elim)) (fun h => h)) hu HEL.out)
  go_wp2_with fail
  go_region_with (first
    | (go_at_call 14; (with_reducible refine (HEN.out _ ((Keep.refl (fun _ => False) w7).drew)).mono ?_); rintro e w8 ⟨u8, rfl, hs8, k8⟩; have k9 : Keep (fun _ => False) w7 w8 := ((Keep.refl (fun _ => False) w7).drew).trans k8 (fun _ h => h.elim); have K9 := Lib.hid k9; have HS8 := Lib.hid hs8; obtain ⟨p0, p1, p2, p3, p4, p5, p6, p7, -⟩ := (A7.out.keep K9.out (fun h => h)).st8; clear k8 k9 hs8)
    | (go_at_call 13; (with_reducible refine (HMY.out _ K9.out u8 HS8.out).mono ?_); rintro e w10 ⟨r3, hr3, rfl, k10⟩; have HR10 := Lib.hid hr3; have K10 := Lib.hid (K9.out.trans k10 (fun _ h => h.elim)); have HW10 := Lib.hid (A7.out.keep K10.out (fun h => h)); obtain ⟨d0, d1, d2, d3, d4, d5, d6, d7, g0, g1, g2, g3, g4, g5, g6, g7⟩ := HW10.out.st8; clear hr3 k10))
  all_goals
    have HSS : Hid (D = digest r3) := Lib.hid (by rw [HD.out, sumOf, ← sum_cut b wh HW64.out.2.1, HR10.out, HR5.out, ← HN.out, HS0.out])
    have K11 : Hid (Keep (fun _ => False) w ((((((((w10.setCell ⟨w.heap.size + 1, 0, none⟩ (.int .u32 (n32 r3.a))).setCell ⟨w.heap.size + 1, 1, none⟩ (.int .u32 (n32 r3.b))).setCell ⟨w.heap.size + 1, 2, none⟩ (.int .u32 (n32 r3.c))).setCell ⟨w.heap.size + 1, 3, none⟩ (.int .u32 (n32 r3.d))).setCell ⟨w.heap.size + 1, 4, none⟩ (.int .u32 (n32 r3.e))).setCell ⟨w.heap.size + 1, 5, none⟩ (.int .u32 (n32 r3.f))).setCell ⟨w.heap.size + 1, 6, none⟩ (.int .u32 (n32 r3.g))).setCell ⟨w.heap.size + 1, 7, none⟩ (.int .u32 (n32 r3.h)))) := Lib.hid (keep_set8 r3 (K7.out.trans K10.out (fun _ h => h.elim)) (.inr (by omega)))
    have A11 : Hid (WAt ((((((((w10.setCell ⟨w.heap.size + 1, 0, none⟩ (.int .u32 (n32 r3.a))).setCell ⟨w.heap.size + 1, 1, none⟩ (.int .u32 (n32 r3.b))).setCell ⟨w.heap.size + 1, 2, none⟩ (.int .u32 (n32 r3.c))).setCell ⟨w.heap.size + 1, 3, none⟩ (.int .u32 (n32 r3.d))).setCell ⟨w.heap.size + 1, 4, none⟩ (.int .u32 (n32 r3.e))).setCell ⟨w.heap.size + 1, 5, none⟩ (.int .u32 (n32 r3.f))).setCell ⟨w.heap.size + 1, 6, none⟩ (.int .u32 (n32 r3.g))).setCell ⟨w.heap.size + 1, 7, none⟩ (.int .u32 (n32 r3.h))) 33 (w.heap.size + 1) (stL r3)) := Lib.hid (HW10.out.set8 r3)
    have B11 : Hid (((((((((w10.setCell ⟨w.heap.size + 1, 0, none⟩ (.int .u32 (n32 r3.a))).setCell ⟨w.heap.size + 1, 1, none⟩ (.int .u32 (n32 r3.b))).setCell ⟨w.heap.size + 1, 2, none⟩ (.int .u32 (n32 r3.c))).setCell ⟨w.heap.size + 1, 3, none⟩ (.int .u32 (n32 r3.d))).setCell ⟨w.heap.size + 1, 4, none⟩ (.int .u32 (n32 r3.e))).setCell ⟨w.heap.size + 1, 5, none⟩ (.int .u32 (n32 r3.f))).setCell ⟨w.heap.size + 1, 6, none⟩ (.int .u32 (n32 r3.g))).setCell ⟨w.heap.size + 1, 7, none⟩ (.int .u32 (n32 r3.h))).heap[w.heap.size]? = some (.cells Z 25 (0, 0))) := Lib.hid
      (((keep_set8 (F := fun x => x = w.heap.size + 1) r3 (K10.out.mono (fun _ _ h => h.elim)) (.inl rfl)).block _ (lt_of_block B7.out) (by omega)).trans B7.out)
    clear q0 q1 q2 q3 q4 q5 q6 q7 p0 p1 p2 p3 p4 p5 p6 p7 d0 d1 d2 d3 d4 d5 d6 d7 g0 g1 g2 g3 g4 g5 g6 g7
    generalize ((((((((w10.setCell ⟨w.heap.size + 1, 0, none⟩ (.int .u32 (n32 r3.a))).setCell ⟨w.heap.size + 1, 1, none⟩ (.int .u32 (n32 r3.b))).setCell ⟨w.heap.size + 1, 2, none⟩ (.int .u32 (n32 r3.c))).setCell ⟨w.heap.size + 1, 3, none⟩ (.int .u32 (n32 r3.d))).setCell ⟨w.heap.size + 1, 4, none⟩ (.int .u32 (n32 r3.e))).setCell ⟨w.heap.size + 1, 5, none⟩ (.int .u32 (n32 r3.f))).setCell ⟨w.heap.size + 1, 6, none⟩ (.int .u32 (n32 r3.g))).setCell ⟨w.heap.size + 1, 7, none⟩ (.int .u32 (n32 r3.h))) = w11 at *
    have hs8 : (wC (stL r3)).size = 8 := rfl
    go_wp2_with (first | (refine wpList_alloc_arr HZ rfl rfl ?_) | (refine wpList_load_arr Tryd.underlying33 rfl (by rw [hs8]; exact Tryd.info8) rfl _ rfl (w.heap.size + 1) rfl (A11.out.alloc _) ?_))
    have K12 := Lib.hid (K11.out.alloc (.cells Z 25))
    have B12 := Lib.hid ((((Keep.refl (fun _ => False) w11).alloc (.cells Z 25)).block _ (lt_of_block B11.out) (fun h => h)).trans B11.out)
    obtain ⟨L, hL⟩ : ∃ L, L = stL r3 := ⟨_, rfl⟩
    have hLl : L.length = 8 := by rw [hL]; rfl
    have HLL := Lib.hid hLl
    have HDG : Hid (D = digK L 8) := Lib.hid (by rw [HSS.out, hL]; rfl)
    have C12 : Hid (BAt (w11.alloc (.cells Z 25)) 25 w11.heap.size (digK L 0)) := Lib.hid (by
      have h9 := heap_alloc_new w11 (.cells Z 25)
      rw [HZZ.out] at h9 ⊢
      exact h9)
    have hlt12 : w.heap.size < w11.heap.size := lt_of_block B11.out
    rw [← hL]
    clear hL hLl hs8
    generalize w11.alloc (.cells Z 25) = w12 at *
    go_loopw [29] (fun i wr => SumR w12 w11.heap.size L i wr) (fun i _ => 8 - (intOf i).toNat)
    case atStart => exact ⟨0, by omega, rfl, Keep.refl _ w12, C12.out⟩
    case round =>
      obtain ⟨k, hk, rfl, hK, hC⟩ := hrel.ex
      clear hrel
      have HK := Lib.hid hK
      have HC := Lib.hid hC
      clear hK hC
      by_cases hlt : k < 8
      · have HLT := Lib.hid (And.intro hlt HLL.out)
        obtain ⟨x, hx⟩ : ∃ x, x = L.getD k 0 := ⟨_, rfl⟩
        have HXX := Lib.hid hx
        obtain ⟨q, hq⟩ : ∃ q, q = 4 * k := ⟨_, rfl⟩
        have he : 4 * (k : Int) = (q : Int) := by omega
        have hq1 : (q : Int) ≤ 28 := by omega
        have hql : q + 4 ≤ (digK L k).length := by rw [digK_length L k HLL.out hk]; omega
        have c0 := HC.out.cell q (by omega)
        have c1 := HC.out.cell (q + 1) (by omega)
        have c2 := HC.out.cell (q + 2) (by omega)
        have c3 := HC.out.cell (q + 3) (by omega)
        have f0 := HC.out.free q
        have f1 := HC.out.free (q + 1)
        have f2 := HC.out.free (q + 2)
        have f3 := HC.out.free (q + 3)
        obtain ⟨b0, y0, Y0⟩ : ∃ c : UInt8, n32 x / (16777216 : Int) % (256 : Int) = ((c.toNat : Nat) : Int) ∧ Hid (c = (x >>> 24).toUInt8) := ⟨_, by_24 x, Lib.hid rfl⟩
        obtain ⟨b1, y1, Y1⟩ : ∃ c : UInt8, n32 x / (65536 : Int) % (256 : Int) = ((c.toNat : Nat) : Int) ∧ Hid (c = (x >>> 16).toUInt8) := ⟨_, by_16 x, Lib.hid rfl⟩
        obtain ⟨b2, y2, Y2⟩ : ∃ c : UInt8, n32 x / (256 : Int) % (256 : Int) = ((c.toNat : Nat) : Int) ∧ Hid (c = (x >>> 8).toUInt8) := ⟨_, by_8 x, Lib.hid rfl⟩
        obtain ⟨b3, y3, Y3⟩ : ∃ c : UInt8, n32 x % (256 : Int) = ((c.toNat : Nat) : Int) ∧ Hid (c = x.toUInt8) := ⟨_, by_0 x, Lib.hid rfl⟩
        have HQ := Lib.hid hq
        generalize (digK L k)[q] = v0 at *
        generalize (digK L k)[q + 1] = v1 at *
        generalize (digK L k)[q + 2] = v2 at *
        generalize (digK L k)[q + 3] = v3 at *
        clear hx hq hql
        go_wp2_with (refine wpList_index_word 8 Tryd.underlying33 rfl _ _ rfl L k HLT.out.1 HLT.out.2 rfl rfl ?_; rw [← HXX.out])
        go_roundw
        case rel =>
          (repeat apply Exists.intro)
          exact SumR.step hlt HLL.out HXX.out HQ.out HK.out HC.out Y0.out Y1.out Y2.out Y3.out
        case measure => simp [intOf]; omega
      · obtain rfl : k = 8 := by omega
        have HF : Hid (BAt wr 25 w11.heap.size D) := Lib.hid (by rw [HDG.out]; exact HC.out)
        have HB5 : Hid (wr.heap[w.heap.size]? = some (.cells Z 25 (0, 0))) := Lib.hid ((HK.out.block _ (lt_of_block B12.out) (by omega)).trans B12.out)
        have HKF := Lib.hid (K12.out.trans HK.out (fun x e => .inr (by have := K11.out.size; omega)))
        go_wp2_with (first | (refine wpList_load_arr Tryd.underlying25 rfl (by rw [hDs]; exact Tryd.info32b) rfl _ rfl w11.heap.size rfl HF.out ?_) | (refine wpList_store_arr (by rw [hDs]; exact Tryd.info32b) (by rw [hDs, hZ]) (bC_one _) rfl _ _ rfl w.heap.size rfl rfl HB5.out ?_; intro w13 h7 k7 z7; have H7 := Lib.hid h7; have K13 := Lib.hid k7; clear h7 k7 z7))
        refine bodyPost_ret (results_arr1 Tryd.results7 _ _ w.heap.size rfl H7.out Tryd.underlying25 rfl (by rw [hDs]; exact Tryd.info32b)) rfl ?_
        exact ⟨rfl, HKF.out.trans K13.out (fun b e => .inr (by omega))⟩

end Go.Proofs.YtebijkpojlngpaaDoor.Sha
