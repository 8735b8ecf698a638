/- What sha.Hex and sha.Password do; the hash of abc. -/
import Derived.Test.YtebijkpojlngpaaDoorShaG
import Derived.Lib.SlBytesConst
namespace Go.Proofs.YtebijkpojlngpaaDoor.Sha
open Go.RowKit Go.Proofs.YtebijkpojlngpaaDoor
set_option maxRecDepth 100000

theorem Tryd.zero64b (w : World) : (zeroValue 36).run Tryd.prog w = .ok (.agg (bC (List.replicate 64 0))) w := by kernel_rfl
theorem Tryd.info64b : (Tryd.prog.info? 36).map (·.size) = some 64 := by kernel_rfl
theorem z64b : ∃ Z : Array Value, Hid (∀ w : World, (zeroValue 36).run Tryd.prog w = .ok (.agg Z) w) ∧ Z.size = 64 ∧ Hid (Z = bC (List.replicate 64 0)) :=
  ⟨_, Lib.hid Tryd.zero64b, by rw [bC_size, List.length_replicate], Lib.hid rfl⟩

section
variable {ops : Array Oper} {rest : List Oper} {o : Oper} {a : Act} {w : World} {Q : Exit → Act → World → Prop}
/-- A byte of an array by value. -/
theorem wpList_index_byte (hg : o.guard = none) (x y : Operand) (ho : o.op = .index 25 x y) (B : List UInt8) (k : Nat) (hk : k < 32) (hB : B.length = 32) (c : UInt8) (hc : B[k]? = some c) (hx : a.eval x = .agg (bC B)) (hy : a.eval y = .int .i64 (k : Int))
    (h : wpList Tryd.prog ops Q rest (a.put o.dst (.int .u8 ((c.toNat : Nat) : Int))) w) : wpList Tryd.prog ops Q (o :: rest) a w := by
  refine wpList_plain hg fun K hK => ?_
  obtain ⟨i, hi, hsz⟩ := Option.map_eq_some_iff.1 Tryd.infoU8
  have hru : (sizeOf 5).run Tryd.prog w = .ok 1 w := by simp [sizeOf, run_typeInfo w hi, hsz]
  have hpl : Tryd.prog.plainKey 5 = true := by kernel_rfl
  have p1 := run_part_plain (P := Tryd.prog) w hpl (xs := bC B) (off := k * 1) (v := .int .u8 ((c.toNat : Nat) : Int)) (by rw [Nat.mul_one, bC]; simp [bcells, hc])
  have h1 : (0 : Int) ≤ (k : Int) ∧ (k : Int) < ((32 : Nat) : Int) := by omega
  have hrun : (Instr.index 25 (.agg (bC B)) (.int .i64 (k : Int))).run Tryd.prog w = .ok (.int .u8 ((c.toNat : Nat) : Int)) w := by
    simp only [Instr.index, asIntOf, Sem.run_bind, Sem.run_pure, Result.andThen_ok, run_underlying Tryd.underlying25, if_pos h1, hru, Int.toNat_natCast, p1]
  unfold Oper.wp execOp
  simp only [ho, hx, hy, Sem.run_bind, hrun, Result.andThen_ok, Sem.run_pure]
  exact hK _ _ h
end

/-- A digit, by the string of digits. -/
def digS : ByteArray := ⟨#[48, 49, 50, 51, 52, 53, 54, 55, 56, 57, 97, 98, 99, 100, 101, 102]⟩

/-- The first k bytes' digits of an array of 64. -/
def hexK (D : List UInt8) (k : Nat) : List UInt8 := hexOf (D.take k) ++ List.replicate (64 - 2 * k) 0
theorem hexOf_length : ∀ (L : List UInt8), (hexOf L).length = 2 * L.length
  | [] => rfl
  | x :: L => by
    have := hexOf_length L
    simp only [hexOf, List.flatMap_cons, List.length_append, List.length_cons] at this ⊢
    rw [this]; simp [hex2]; omega
theorem hexK_length (D : List UInt8) (k : Nat) (hD : D.length = 32) (hk : k ≤ 32) : (hexK D k).length = 64 := by
  rw [hexK, List.length_append, hexOf_length, List.length_replicate, List.length_take]; omega
theorem hexK_full (D : List UInt8) (hD : D.length = 32) : hexK D 32 = hexOf D := by rw [hexK, List.take_of_length_le (by omega)]; simp
theorem hexK_set (D : List UInt8) (k : Nat) (hD : D.length = 32) (hk : k < 32) (c x y : UInt8) (hc : D[k]? = some c) (hx : x = hexD.getD (c.toNat / 16) 0) (hy : y = hexD.getD (c.toNat % 16) 0) :
    ((hexK D k).set (2 * k) x).set (2 * k + 1) y = hexK D (k + 1) := by
  have hl : (hexOf (D.take k)).length = 2 * k := by rw [hexOf_length, List.length_take]; omega
  have e : D.take (k + 1) = D.take k ++ [c] := by
    rw [List.take_succ_eq_append_getElem (by omega)]
    rw [List.getElem?_eq_getElem (by omega)] at hc
    rw [Option.some.inj hc]
  have e2 : hexOf (D.take (k + 1)) = hexOf (D.take k) ++ [x, y] := by
    rw [e, hx, hy]; simp [hexOf, hex2]
  unfold hexK
  rw [e2, List.append_assoc]
  have h0 := List.set_append_right (s := hexOf (D.take k)) (t := List.replicate (64 - 2 * k) (0 : UInt8)) (2 * k) x (by omega)
  rw [h0, hl, Nat.sub_self]
  have h1 := List.set_append_right (s := hexOf (D.take k)) (t := (List.replicate (64 - 2 * k) (0 : UInt8)).set 0 x) (2 * k + 1) y (by omega)
  rw [h1, hl, Nat.add_sub_cancel_left]
  congr 1
  rw [show 64 - 2 * k = (64 - 2 * (k + 1)) + 1 + 1 by omega]
  simp [List.replicate_succ]

theorem dig_all : ∀ i : Fin 16, (({ data := #[48, 49, 50, 51, 52, 53, 54, 55, 56, 57, 97, 98, 99, 100, 101, 102] } : ByteArray)[i.1]'(i.2)) = hexD.getD i.1 0 := by decide
theorem dig_get (i : Nat) (h : i < 16) (h' : i < ({ data := #[48, 49, 50, 51, 52, 53, 54, 55, 56, 57, 97, 98, 99, 100, 101, 102] } : ByteArray).size) : (({ data := #[48, 49, 50, 51, 52, 53, 54, 55, 56, 57, 97, 98, 99, 100, 101, 102] } : ByteArray)[i]'h') = hexD.getD i 0 := dig_all ⟨i, h⟩

structure HexR (w1 : World) (B : Nat) (D : List UInt8) (i : Value) (wr : World) : Prop where
  ex : ∃ k : Nat, k ≤ 32 ∧ i = .int .i64 (k : Int) ∧ Keep (fun x => x = B) w1 wr ∧ BAt wr 36 B (hexK D k)
theorem HexR.step {w1 wr : World} {B k q : Nat} {D : List UInt8} {c x y : UInt8} (hk : k < 32) (hq : q = 2 * k) (hD : D.length = 32) (hc : D[k]? = some c) (hx : x = hexD.getD (c.toNat / 16) 0) (hy : y = hexD.getD (c.toNat % 16) 0) (hK : Keep (fun x => x = B) w1 wr) (hC : BAt wr 36 B (hexK D k)) :
    HexR w1 B D (.int .i64 ((k : Int) + 1)) ((wr.setCell ⟨B, q, none⟩ (.int .u8 ((x.toNat : Nat) : Int))).setCell ⟨B, q + 1, none⟩ (.int .u8 ((y.toNat : Nat) : Int))) := by
  refine ⟨k + 1, by omega, by rw [Int.natCast_add]; rfl, (hK.setCell _ _ (.inl rfl)).setCell _ _ (.inl rfl), ?_⟩
  have h := (hC.set q x).set (q + 1) y
  rw [hq, hexK_set D k hD hk c x y hc hx hy] at h
  rw [hq]; exact h

theorem u8_hi (c : UInt8) : ((c.toNat : Nat) : Int) / 16 = ((c.toNat / 16 : Nat) : Int) := by omega
theorem u8_lo (c : UInt8) : bits .and .u8 ((c.toNat : Nat) : Int) 15 = ((c.toNat % 16 : Nat) : Int) := by
  have := u8_and_nat c.toNat 15 c.toNat_lt (by omega)
  rw [Nat.and_two_pow_sub_one_eq_mod c.toNat 4] at this
  exact this

set_option maxHeartbeats 1000000 in
theorem hex_any {w : World} {v : Value} {b : List UInt8} (hR : Roots w) (h : Seen w 1 v b.length (bcells b)) (hb : b.length < 1000000000000000000) :
    Calls Tryd.prog 9 #[v] w fun e w' => e = .returned (.string ⟨(hexOf (sumOf b)).toArray⟩) ∧ Keep (fun _ => False) w w' := by
  obtain ⟨D, hD⟩ : ∃ D, D = sumOf b := ⟨_, rfl⟩
  have hDl : D.length = 32 := by rw [hD]; rfl
  obtain ⟨Z, HZ, hZ, HZZ⟩ := z64b
  have HS := Lib.hid h
  have HSM := Lib.hid (fun (w9 : World) (k9 : Keep (fun _ => False) w w9) => sum_any (hR.keep k9 (fun h => h)) (h.keep k9 (fun _ _ _ h => h)) hb)
  rw [← hD] at HSM ⊢
  obtain ⟨T, hT⟩ : ∃ T, T = hexOf D := ⟨_, rfl⟩
  rw [← hT]
  have HT := Lib.hid hT
  have hTl : T.length = 64 := by rw [hT, hexOf_length, hDl]
  have HTL := Lib.hid hTl
  obtain ⟨_, ab, cap, rfl, hlc, hcm, _⟩ := h
  obtain ⟨n, hn⟩ : ∃ n, n = b.length := ⟨_, rfl⟩
  rw [← hn] at HSM HS hlc ⊢
  have K1 := Lib.hid ((Keep.refl (fun _ => False) w).alloc (.cells Z 36))
  have C1 : Hid (BAt (w.alloc (.cells Z 36)) 36 w.heap.size (hexK D 0)) := Lib.hid (by
    have h9 := heap_alloc_new w (.cells Z 36)
    rw [HZZ.out] at h9 ⊢; exact h9)
  clear hD hT hn hTl hR
  go_enter Tryd.func9, Tryd.ntmps9
  go_wp2_with (first | (refine wpList_alloc_arr HZ rfl rfl ?_))
  generalize w.alloc (.cells Z 36) = w1 at *
  refine (HSM.out _ K1.out).mono ?_
  rintro e w2 ⟨rfl, k2⟩
  have K2 := Lib.hid (K1.out.trans k2 (fun _ h => h.elim))
  have C2 := Lib.hid (C1.out.keep k2 (fun h => h))
  clear k2
  go_wp2
  go_loopw [8] (fun i wr => HexR w2 w.heap.size D i wr) (fun i _ => 32 - (intOf i).toNat)
  case atStart => exact ⟨0, by omega, rfl, Keep.refl _ w2, C2.out⟩
  case round =>
    obtain ⟨k, hk, rfl, hK, hC⟩ := hrel.ex
    clear hrel
    have HK := Lib.hid hK
    have HC := Lib.hid hC
    by_cases hlt : k < 32
    · obtain ⟨c, hc⟩ : ∃ c, D[k]? = some c := ⟨_, List.getElem?_eq_getElem (by omega)⟩
      have HCC := Lib.hid hc
      obtain ⟨q, hq⟩ : ∃ q, q = 2 * k := ⟨_, rfl⟩
      have he : 2 * (k : Int) = (q : Int) := by omega
      have hq1 : (q : Int) ≤ 62 := by omega
      obtain ⟨v0, q0⟩ : ∃ v0, wr.cell? ⟨w.heap.size, q, none⟩ = some v0 := ⟨_, hC.cell q (by rw [hexK_length D k hDl hk]; omega)⟩
      obtain ⟨v1, q1⟩ : ∃ v1, wr.cell? ⟨w.heap.size, q + 1, none⟩ = some v1 := ⟨_, hC.cell (q + 1) (by rw [hexK_length D k hDl hk]; omega)⟩
      have f0 := hC.free q
      have f1 := hC.free (q + 1)
      have hc1 := u8_hi c
      have hc2 := u8_lo c
      obtain ⟨hi, hhi⟩ : ∃ hi, hi = c.toNat / 16 := ⟨_, rfl⟩
      obtain ⟨lo, hlo⟩ : ∃ lo, lo = c.toNat % 16 := ⟨_, rfl⟩
      rw [← hhi] at hc1
      rw [← hlo] at hc2
      have hh1 : (hi : Int) < 16 := by have := c.toNat_lt; omega
      have hl1 : (lo : Int) < 16 := by omega
      have HQ := Lib.hid hq
      have HLT := Lib.hid hlt
      have HHI := Lib.hid (And.intro hhi hlo)
      clear hK hC hc hq hhi hlo
      go_wp2_with (refine wpList_index_byte rfl _ _ rfl D k HLT.out hDl c HCC.out rfl rfl ?_)
      exact ⟨HexR.step HLT.out HQ.out hDl HCC.out (by rw [← HHI.out.1]; exact dig_get hi (by omega) _) (by rw [← HHI.out.2]; exact dig_get lo (by omega) _) HK.out HC.out, by simp [intOf]; omega⟩
    · obtain rfl : k = 32 := by omega
      have HF : Hid (BAt wr 36 w.heap.size T) := Lib.hid (by have h9 := HC.out; rw [hexK_full D hDl, ← HT.out] at h9; exact h9)
      have hcv : (convert 22 9 (.slice (some ⟨w.heap.size, 0, none⟩) 64 64)).run Tryd.prog wr = .ok (.string ⟨T.toArray⟩) wr :=
        run_string_of_bytes (fun j hj => by rw [Nat.zero_add]; exact HF.out.cell j hj) _ _ _ 64 64 HTL.out Tryd.underlying22 Tryd.underlying5 Tryd.underlying9
      have HKF := Lib.hid (K2.out.trans HK.out (fun x e => .inr (by omega)))
      clear hK hC
      go_wp2
      go_ret
      exact ⟨rfl, HKF.out⟩

theorem run_bytes_rowS {P : Program} (w : World) (src dst e : TypeId) (s : ByteArray) (hs : P.underlying src = some .string) (hd : P.underlying dst = some (.slice e)) (he : P.underlying e = some (.int .u8)) (hm : s.size ≤ maxLen) :
    ∃ cap w', (convert src dst (.string s)).run P w = .ok (.slice (some ⟨w.heap.size, 0, none⟩) s.size cap) w' ∧ Row w' e 1 (.slice (some ⟨w.heap.size, 0, none⟩) s.size cap) s.size (byteCells s) ∧ Keep (fun _ => False) w w' ∧
      w'.heap.size = w.heap.size + 1 := by
  refine ⟨_, _, run_bytes_of_string w src dst e s hs hd he, ⟨by rw [byteCells_length, Nat.mul_one], .inr ⟨w.heap.size, 0, _, _, _, _, rfl, heap_alloc_new w.drew _, grownCap_ge w s.size 0 e, grownCap_le_maxLen w s.size 0 e hm, ?_, .inr (.inl ?_), ?_⟩⟩, ((Keep.refl _ w).drew).alloc _, by simp⟩
  · have := grownCap_ge w s.size 0 e
    simp only [bytesRow, Array.size_append, Array.size_map, Array.size_replicate, Nat.zero_add, Nat.mul_one]
    have h2 : s.data.size = s.size := rfl
    omega
  · have := grownCap_ge w s.size 0 e
    simp only [bytesRow, Array.size_append, Array.size_map, Array.size_replicate, Nat.zero_add, Nat.mul_one]
    have h2 : s.data.size = s.size := rfl
    omega
  · have h2 : (byteCells s).length = s.size := byteCells_length s
    simp only [bytesRow, Array.toList_append, Array.toList_map, List.drop_zero, Nat.mul_one]
    exact List.take_left' h2

theorem byteCells_b (s : ByteArray) : byteCells s = bcells s.data.toList := rfl

/-- A string as bytes, one behind a colon. -/
def colon (n p : ByteArray) : List UInt8 := n.data.toList ++ 58 :: p.data.toList
theorem colon_data (n p : ByteArray) : (n ++ ({ data := #[58] } : ByteArray) ++ p).data.toList = colon n p := by simp [colon]
theorem colon_size (n p : ByteArray) : (n ++ ({ data := #[58] } : ByteArray) ++ p).size = n.size + 1 + p.size := by simp [ByteArray.size_append]; rfl

/-- The string's bytes, a colon, the other's. -/
theorem password_any {w : World} {n p : ByteArray} (hR : Roots w) (hn : n.size ≤ 1000000) (hp : p.size ≤ 1000000) :
    Calls Tryd.prog 11 #[.string n, .string p] w fun e w' => e = .returned (.string ⟨(hexOf (sumOf (colon n p))).toArray⟩) ∧ Keep (fun _ => False) w w' := by
  have hsz := colon_size n p
  have hdt := colon_data n p
  obtain ⟨s, hs⟩ : ∃ s, n ++ ({ data := #[58] } : ByteArray) ++ p = s := ⟨_, rfl⟩
  rw [hs] at hsz hdt
  obtain ⟨cap, w1, hr, hrow, hk, _⟩ := run_bytes_rowS (P := Tryd.prog) w 9 22 5 s Tryd.underlying9 Tryd.underlying22 Tryd.underlying5 (by unfold maxLen; omega)
  rw [byteCells_b, hdt] at hrow
  have hl : (colon n p).length = s.size := by rw [← hdt]; simp
  have HX := Lib.hid (hex_any (b := colon n p) (hR.keep hk (fun h => h)) (by rw [hl]; exact hrow.seen) (by omega))
  have HK := Lib.hid hk
  clear hrow hk hl hsz hdt hR
  go_enter Tryd.func11, Tryd.ntmps11
  go_wp2_with fail
  refine HX.out.mono ?_
  rintro e w2 ⟨rfl, k2⟩
  have K2 := Lib.hid (HK.out.trans k2 (fun _ h => h.elim))
  clear k2
  go_wp2
  go_ret
  exact ⟨rfl, K2.out⟩

theorem Seen.litS {w : World} {size : Nat} {t : TypeId} {f : Nat × Nat} (cs : Array Value) (b n c : Nat) (hb : b = w.heap.size) (hn : cs.size = n * size) (hc : n ≤ c) (hm : c ≤ maxLen) : Seen (w.alloc (.cells cs t f)) size (.slice (some ⟨b, 0, none⟩) n c) n cs.toList := by
  subst hb
  refine ⟨by simpa using hn, _, c, rfl, hc, hm, .inr ⟨w.heap.size, 0, rfl, by simp, fun j u hu => ?_⟩⟩
  rw [Nat.zero_add, World.cell?_alloc_mark]
  simpa using hu

set_option maxHeartbeats 1000000 in
theorem begun8_any {w : World} (hR : Roots w) : Calls Tryd.prog 5 #[] w fun e w' => e = .returned (.bool true) ∧ Keep (fun _ => False) w w' := by
  have HX := Lib.hid (fun w9 (k9 : Keep (fun _ => False) w w9) v h => hex_any (w := w9) (v := v) (b := [97, 98, 99]) (hR.keep k9 (fun h => h)) h (by decide))
  rw [hex_abc] at HX
  clear hR
  have kc := fun (w : World) (C : Array Value) (n c : Nat) => Lib.run_convert_bytes_const (P := Tryd.prog) w 22 5 C n c Tryd.underlying22 Tryd.underlying5
  go_enter Tryd.func5, Tryd.ntmps5
  go_wp2_with fail
  clear kc
  refine (HX.out _ (((Keep.refl _ w).alloc _)) _ (Seen.litS (#[.int .u8 97, .int .u8 98, .int .u8 99] : Array Value) _ _ _ rfl rfl (by decide) (by simp [maxLen]))).mono ?_
  rintro e w2 ⟨rfl, k2⟩
  have K2 := Lib.hid (((Keep.refl (fun _ => False) w).alloc _).trans k2 (fun _ h => h.elim))
  clear k2
  go_wp2
  go_ret
  exact ⟨rfl, K2.out⟩

end Go.Proofs.YtebijkpojlngpaaDoor.Sha
