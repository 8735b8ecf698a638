/- What the reference's Hex and Password do. -/
import Derived.Test.YtebijkpojlngpaaDoorShaH
import Derived.Test.YtebijkpojlngpaaDoorShaR6
import Derived.Deep.RegionLaw
namespace Go.Proofs.YtebijkpojlngpaaDoor.Sha
open Go.RowKit Go.Proofs.YtebijkpojlngpaaDoor
set_option maxRecDepth 100000

theorem step_append_row {P : Program} {w : World} {ops : Array Oper} {o : Oper} {a : Act} {K : Act → World → Prop} {Q : Exit → Act → World → Prop} {E : Prop} (hgd : o.guard = none) (s x : Operand) {t tx : TypeId}
    (ho : o.op = .call { callee := .builtin .append, args := #[s, x], argTypes := #[t, tx] })
    {e : TypeId} {i : TypeInfo} {z : Value} {size bytes : Nat} (ht : P.underlying t = some (.slice e)) (hi : P.info? e = some i) (hz : i.zero = some z)
    (hsize : i.size = size) (hby : i.bytes = bytes) (hzs : z.cells.size = size)
    {v : Value} {n : Nat} {xs : List Value} (hv : a.eval s = v) (h : Row w e size v n xs) {vx : Value} (hx : a.eval x = vx) {m : Nat} {news : List Value} (hs : Src P size tx vx m news w)
    (h63 : n + m ≤ maxLen) (hbytes : (n + m) * bytes ≤ 140737488355328)
    (hK : ∀ v' w', Row w' e size v' (n + m) (xs ++ news) → Keep (fun b => v.ownBlock = some b) w w' → (∀ b, v'.ownBlock = some b → v.ownBlock = some b ∨ (w.heap.size ≤ b ∧ b < w'.heap.size)) →
      (v' = .slice none 0 0 ↔ v = .slice none 0 0 ∧ m = 0) → K (a.put o.dst v') w') : if Region.wanted o (yielded ops a.tmps) = true then Oper.wp P o a w K Q else E := by
  have hw : Region.wanted o (yielded ops a.tmps) = true := by simp [Region.wanted, hgd]
  rw [if_pos hw]
  obtain ⟨v', w', hr, h2, h3, h4, h5⟩ := run_append_row (P := P) w o.type ht hi hz hsize hby hzs h hs h63 hbytes
  unfold Oper.wp execOp
  simp only [ho, resolve, invoke, builtin, Sem.run_bind, Sem.run_pure, Result.andThen_ok, List.map_toArray, List.map_cons, List.map_nil, hv, hx, hr]
  exact hK v' w' h2 h3 h4 h5

structure RHexR (w1 : World) (BW : Nat) (D : List UInt8) (v i : Value) (wr : World) : Prop where
  ex : ∃ k : Nat, k ≤ 32 ∧ i = .int .i64 (k : Int) ∧ Row wr 5 1 v (2 * k) (bcells (hexOf (D.take k))) ∧ Keep (fun _ => False) w1 wr ∧ (∀ x, v.ownBlock = some x → BW ≤ x)

theorem hex_next (D : List UInt8) (k : Nat) (c : UInt8) (hc : D[k]? = some c) : hexOf (D.take (k + 1)) = hexOf (D.take k) ++ [hexD.getD (c.toNat / 16) 0, hexD.getD (c.toNat % 16) 0] := by
  have hk : k < D.length := (List.getElem?_eq_some_iff.1 hc).1
  rw [List.take_succ_eq_append_getElem hk]
  rw [List.getElem?_eq_getElem hk] at hc
  rw [Option.some.inj hc]; simp [hexOf, hex2]

set_option maxHeartbeats 1000000 in
theorem rhex_any {w : World} {v : Value} {b : List UInt8} (h : Seen w 1 v b.length (bcells b)) (hb : b.length ≤ 1000000) :
    Calls Tryd.prog 10 #[v] w fun e w' => e = .returned (.string ⟨(hexOf (sumOf b)).toArray⟩) ∧ Keep (fun _ => False) w w' := by
  obtain ⟨D, hD⟩ : ∃ D, D = sumOf b := ⟨_, rfl⟩
  have hDl : D.length = 32 := by rw [hD]; rfl
  have hDs : (bC D).size = 32 := by rw [bC_size, hDl]
  have HSM := Lib.hid (sha_any h hb)
  obtain ⟨Z, HZ, hZ, HZZ⟩ := z32
  obtain ⟨i0, hi0, hz0, hz1, hz2⟩ := info_parts Tryd.infoB
  rw [← hD] at HSM ⊢
  obtain ⟨T, hT⟩ : ∃ T, T = hexOf D := ⟨_, rfl⟩
  rw [← hT]
  have HT := Lib.hid hT
  have hTl : T.length = 64 := by rw [hT, hexOf_length, hDl]
  have HTL := Lib.hid hTl
  obtain ⟨_, ab, cap, rfl, hlc, hcm, _⟩ := h
  obtain ⟨n, hn⟩ : ∃ n, n = b.length := ⟨_, rfl⟩
  rw [← hn] at HSM ⊢
  clear hD hT hn hTl
  go_enter Tryd.func10, Tryd.ntmps10
  go_wp2_with fail
  refine HSM.out.mono ?_
  rintro e w2 ⟨rfl, k2⟩
  have K3 := Lib.hid (k2.alloc (.cells (bC D) 25))
  have C3 : Hid (BAt (w2.alloc (.cells (bC D) 25)) 25 w2.heap.size D) := Lib.hid (heap_alloc_new w2 _)
  clear k2
  go_wp2_with (first | (refine wpList_var_arr HZ (by rw [hDs]; exact Tryd.info32b) (by rw [hDs, hZ]) (bC_one _) rfl rfl rfl _ _ rfl rfl rfl ?_))
  generalize w2.alloc (.cells (bC D) 25) = w3 at *
  obtain ⟨BB, hBB⟩ : ∃ BB, BB = w2.heap.size := ⟨_, rfl⟩
  rw [← hBB] at C3 ⊢
  clear hBB
  go_loopw [5, 6] (fun v i wr => RHexR w3 w3.heap.size D v i wr) (fun _ i _ => 32 - (intOf i).toNat)
  case atStart => exact ⟨0, by omega, rfl, Row.nil _ _ _, Keep.refl _ w3, fun b h => by simp [Value.ownBlock] at h⟩
  case round =>
    obtain ⟨k, hk, rfl, hR, hK, hN⟩ := hrel.ex
    clear hrel
    obtain ⟨av, cv, rfl, _, _⟩ := hR.slice
    have HRv := Lib.hid hR
    have HKv := Lib.hid hK
    have HNv := Lib.hid hN
    obtain ⟨m, hm⟩ : ∃ m, m = 2 * k := ⟨_, rfl⟩
    rw [← hm] at HRv HNv ⊢
    have HM := Lib.hid hm
    by_cases hlt : k < 32
    · obtain ⟨c, hc⟩ : ∃ c, D[k]? = some c := ⟨_, List.getElem?_eq_getElem (by omega)⟩
      have HCC := Lib.hid hc
      have c0 : wr.cell? ⟨BB, k, none⟩ = some (.int .u8 ((c.toNat : Nat) : Int)) := by
        have h9 := (C3.out.keep hK (fun h => h)).cell k (by omega)
        rw [List.getElem?_eq_getElem (by omega)] at hc
        rw [h9, Option.some.inj hc]
      have hc1 := u8_hi c
      have hc2 := u8_lo c
      obtain ⟨hi, hhi⟩ : ∃ hi, hi = c.toNat / 16 := ⟨_, rfl⟩
      obtain ⟨lo, hlo⟩ : ∃ lo, lo = c.toNat % 16 := ⟨_, rfl⟩
      rw [← hhi] at hc1
      rw [← hlo] at hc2
      have hh1 : (hi : Int) < 16 := by have := c.toNat_lt; omega
      have hl1 : (lo : Int) < 16 := by omega
      have HHI := Lib.hid (And.intro hhi hlo)
      have hm64 : m ≤ 62 := by omega
      clear hR hK hN hc hm hhi hlo
      go_wp2
      have RX := (Row.made (w := wr) (e := 5) (size := 1) (#[.int .u8 (((({ data := #[48, 49, 50, 51, 52, 53, 54, 55, 56, 57, 97, 98, 99, 100, 101, 102] } : ByteArray)[hi]'(by show hi < 16; omega)).toNat : Nat) : Int), .int .u8 (((({ data := #[48, 49, 50, 51, 52, 53, 54, 55, 56, 57, 97, 98, 99, 100, 101, 102] } : ByteArray)[lo]'(by show lo < 16; omega)).toNat : Nat) : Int)] : Array Value) wr.heap.size 2 rfl (by simp [maxLen]) rfl).drew
      have SX := RX.src Tryd.underlying22 (by simp [Value.oneCell'])
      have RV := (HRv.out.alloc (.cells (#[.int .u8 (((({ data := #[48, 49, 50, 51, 52, 53, 54, 55, 56, 57, 97, 98, 99, 100, 101, 102] } : ByteArray)[hi]'(by show hi < 16; omega)).toNat : Nat) : Int), .int .u8 (((({ data := #[48, 49, 50, 51, 52, 53, 54, 55, 56, 57, 97, 98, 99, 100, 101, 102] } : ByteArray)[lo]'(by show lo < 16; omega)).toNat : Nat) : Int)] : Array Value) 5)).drew
      have SXH := Lib.hid SX
      have RVH := Lib.hid RV
      clear RX SX RV
      go_region_law (refine step_append_row rfl (.tmp 13) (.tmp 26) rfl Tryd.underlying22 hi0 hz0 hz1 hz2 rfl (by simp [go_sem]) RVH.out (by simp [go_sem]) SXH.out (by unfold maxLen; omega) (by omega) ?_; intro v8 w8 r8 k8 n8 _)
      all_goals
        have R8 : Hid (Row w8 5 1 v8 (2 * (k + 1)) (bcells (hexOf (D.take (k + 1))))) := Lib.hid (by
          rw [hex_next D k c HCC.out, ← HHI.out.1, ← HHI.out.2, ← dig_get hi (by omega) (by show hi < 16; omega), ← dig_get lo (by omega) (by show lo < 16; omega)]
          have e2 : 2 * (k + 1) = m + 2 := by have := HM.out; omega
          rw [e2]
          simpa [bcells] using r8)
        have K8 := Lib.hid (((HKv.out.alloc (.cells (#[.int .u8 (((({ data := #[48, 49, 50, 51, 52, 53, 54, 55, 56, 57, 97, 98, 99, 100, 101, 102] } : ByteArray)[hi]'(by show hi < 16; omega)).toNat : Nat) : Int), .int .u8 (((({ data := #[48, 49, 50, 51, 52, 53, 54, 55, 56, 57, 97, 98, 99, 100, 101, 102] } : ByteArray)[lo]'(by show lo < 16; omega)).toNat : Nat) : Int)] : Array Value) 5)).drew).trans k8 (fun x e => .inr (HNv.out x e)))
        have N8 : Hid (∀ x, v8.ownBlock = some x → w3.heap.size ≤ x) := Lib.hid (fun x e => by
          rcases n8 x e with h | h
          · exact HNv.out x h
          · have h9 : ((wr.alloc (.cells (#[.int .u8 (((({ data := #[48, 49, 50, 51, 52, 53, 54, 55, 56, 57, 97, 98, 99, 100, 101, 102] } : ByteArray)[hi]'(by show hi < 16; omega)).toNat : Nat) : Int), .int .u8 (((({ data := #[48, 49, 50, 51, 52, 53, 54, 55, 56, 57, 97, 98, 99, 100, 101, 102] } : ByteArray)[lo]'(by show lo < 16; omega)).toNat : Nat) : Int)] : Array Value) 5)).drew).heap.size = wr.heap.size + 1 := World.size_alloc ..
            have := HKv.out.size; omega)
        obtain ⟨a8, c8, rfl, _, _⟩ := r8.slice
        clear r8 k8 n8
        go_simp
        go_wp2
        go_roundw
        case rel =>
          (repeat apply Exists.intro)
          exact ⟨k + 1, by omega, by go_num, R8.out, K8.out, N8.out⟩
        case measure => simp [intOf]; omega
    · obtain rfl : k = 32 := by omega
      have RF : Hid (Row wr 5 1 (.slice av 64 cv) 64 (bcells T)) := Lib.hid (by
        have h9 := HRv.out
        rw [List.take_of_length_le (by omega), ← HT.out, hm] at h9
        exact h9)
      obtain ⟨g, o, c', hv, _, _⟩ := RF.out.full (by omega)
      simp only [Value.slice.injEq] at hv
      obtain ⟨rfl, -, -⟩ := hv
      obtain rfl : m = 64 := by omega
      have hcv : (convert 22 9 (.slice (some ⟨g, o, none⟩) 64 cv)).run Tryd.prog wr = .ok (.string ⟨T.toArray⟩) wr :=
        run_string_of_bytes (fun j hj => by
          have h9 := RF.out.cellAt j (by have := HTL.out; omega)
          rw [h9]; simp [bcells, List.getElem?_eq_getElem hj]) _ _ _ 64 cv HTL.out Tryd.underlying22 Tryd.underlying5 Tryd.underlying9
      have HKF := Lib.hid (K3.out.trans hK (fun _ h => h.elim))
      clear hR hK hN hm
      go_wp2
      go_ret
      exact ⟨rfl, HKF.out⟩

theorem rpassword_any {w : World} {n p : ByteArray} (hn : n.size ≤ 100000) (hp : p.size ≤ 100000) :
    Calls Tryd.prog 12 #[.string n, .string p] w fun e w' => e = .returned (.string ⟨(hexOf (sumOf (colon n p))).toArray⟩) ∧ Keep (fun _ => False) w w' := by
  have hsz := colon_size n p
  have hdt := colon_data n p
  obtain ⟨s, hs⟩ : ∃ s, n ++ ({ data := #[58] } : ByteArray) ++ p = s := ⟨_, rfl⟩
  rw [hs] at hsz hdt
  obtain ⟨cap, w1, hr, hrow, hk, _⟩ := run_bytes_rowS (P := Tryd.prog) w 9 22 5 s Tryd.underlying9 Tryd.underlying22 Tryd.underlying5 (by unfold maxLen; omega)
  rw [byteCells_b, hdt] at hrow
  have hl : (colon n p).length = s.size := by rw [← hdt]; simp
  have HX := Lib.hid (rhex_any (b := colon n p) (by rw [hl]; exact hrow.seen) (by omega))
  have HK := Lib.hid hk
  clear hrow hk hl hsz hdt
  go_enter Tryd.func12, Tryd.ntmps12
  go_wp2_with fail
  refine HX.out.mono ?_
  rintro e w2 ⟨rfl, k2⟩
  have K2 := Lib.hid (HK.out.trans k2 (fun _ h => h.elim))
  clear k2
  go_wp2
  go_ret
  exact ⟨rfl, K2.out⟩

end Go.Proofs.YtebijkpojlngpaaDoor.Sha
