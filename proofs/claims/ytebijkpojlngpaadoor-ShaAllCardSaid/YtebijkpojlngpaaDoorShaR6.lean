/- What the reference's Sha does. -/
import Derived.Test.YtebijkpojlngpaaDoorShaR5
import Derived.Shelf.Abstract
namespace Go.Proofs.YtebijkpojlngpaaDoor.Sha
open Go.RowKit Go.Proofs.YtebijkpojlngpaaDoor
set_option maxRecDepth 100000
attribute [-go_sem] Go.run_slice_h Go.run_slice_l Go.run_slice_any

theorem root_z {w : World} (z : Int) (p : UInt64) (hz : z = n64 p) (cube : Bool) (R : UInt32) (hR : rootB p cube = R) :
    Calls Tryd.prog 18 #[.int .u64 z, .bool cube] w fun e w' => e = .returned (.int .u32 (n32 R)) ∧ w = w' := by
  subst hz hR
  exact root_any p cube

section
variable {P : Program} {ops : Array Oper} {o : Oper} {a : Act} {w : World} {K : Act → World → Prop} {Q : Exit → Act → World → Prop} {E : Prop}
theorem step_load_arr {t : TypeId} {C : Array Value} {d : TypeDesc} (hu : P.underlying t = some d) (hd : (match d with | .struct _ | .array _ _ => true | _ => false) = true) (hi : (P.info? t).map (·.size) = some C.size) (hg : o.guard = none) (x : Operand) (ho : o.op = .load t x) (g : Nat) (hx : a.eval x = .pointer (some ⟨g, 0, none⟩)) {t' : TypeId} {f : Nat × Nat} (hS : w.heap[g]? = some (.cells C t' f))
    (h : K (a.put o.dst (.agg C)) w) : if Region.wanted o (yielded ops a.tmps) = true then Oper.wp P o a w K Q else E := by
  rw [if_pos (by simp [Region.wanted, hg])]
  exact wp_load_row t x ho g hx _ C _ _ hS hu hd hi h
theorem step_store_arr {t : TypeId} {Z C : Array Value} (hi : (P.info? t).map (·.size) = some C.size) (hs : Z.size = C.size) (hC1 : C.all (·.oneCell') = true) (hg : o.guard = none) (x y : Operand) (ho : o.op = .store t x y) (g : Nat) (hx : a.eval x = .pointer (some ⟨g, 0, none⟩)) (hy : a.eval y = .agg C) {t' : TypeId} (hS : w.heap[g]? = some (.cells Z t' (0, 0)))
    (h : ∀ w', w'.heap[g]? = some (.cells C t' (0, 0)) → Keep (fun b => b = g) w w' → K (a.put o.dst undef) w') : if Region.wanted o (yielded ops a.tmps) = true then Oper.wp P o a w K Q else E := by
  rw [if_pos (by simp [Region.wanted, hg])]
  exact wp_store_row t x y ho g C hx hy _ Z hS hi hs hC1 (h _ (setRow_heap w g _ _ _ _ hS) ⟨rfl, rfl, rfl, by simp, fun k _ hne => setRow_other w g k _ hne⟩)

theorem step_call3 (hg : o.guard = none) {f : FuncId} {x y z : Operand} {t u v : TypeId} {v0 v1 v2 : Value} (ho : o.op = .call { callee := .value (.func f), args := #[x, y, z], argTypes := #[t, u, v] }) (he : ∀ args w, (callFunc f args).run P w = .ok (.enter f args) w) (hx : a.eval x = v0) (hy : a.eval y = v1) (hz : a.eval z = v2)
    (hc : Calls P f #[v0, v1, v2] w fun e w' => ∃ v, e = .returned v ∧ K (a.put o.dst v) w') :
    if Region.wanted o (yielded ops a.tmps) = true then Oper.wp P o a w K Q else E := by
  have hw : Region.wanted o (yielded ops a.tmps) = true := by simp [Region.wanted, hg]
  rw [if_pos hw]
  have hrun : (execOp a.eval o).run P w = .ok (.enter f #[v0, v1, v2]) w := by
    subst hx hy hz
    simp [execOp, ho, resolve, invoke, go_sem, he, Act.eval]
  unfold Oper.wp
  rw [hrun, Oper.upon_enter]
  refine hc.mono fun e w'' hh => ?_
  obtain ⟨v, rfl, hh⟩ := hh
  exact hh
end

structure PadR (w4 : World) (b : List UInt8) (B : Nat) (v : Value) (wr : World) : Prop where
  ex : ∃ j : Nat, j ≤ zerosN b.length ∧ Row wr 5 1 v (padZ b j).length (bcells (padZ b j)) ∧ Keep (fun _ => False) w4 wr ∧ (∀ x, v.ownBlock = some x → B ≤ x)

structure LenR (w4 : World) (b : List UInt8) (B : Nat) (v i : Value) (wr : World) : Prop where
  ex : ∃ (j : Nat) (z : Int), j ≤ 8 ∧ z = 7 - (j : Int) ∧ i = .int .i64 z ∧ Row wr 5 1 v (padE b j).length (bcells (padE b j)) ∧ Keep (fun _ => False) w4 wr ∧ (∀ x, v.ownBlock = some x → B ≤ x)

structure OutR (w1 : World) (B : Nat) (D : List UInt8) (i : Value) (wr : World) : Prop where
  ex : ∃ k : Nat, k ≤ 8 ∧ i = .int .i64 (k : Int) ∧ Keep (fun x => x = B) w1 wr ∧ BAt wr 25 B (upTo D (4 * k))
structure InR (w1 : World) (B : Nat) (D : List UInt8) (i : Nat) (j : Value) (wr : World) : Prop where
  ex : ∃ k : Nat, k ≤ 4 ∧ j = .int .i64 (k : Int) ∧ Keep (fun x => x = B) w1 wr ∧ BAt wr 25 B (upTo D (4 * i + k))
theorem InR.step {w1 wr : World} {B i j t : Nat} {D : List UInt8} {c : UInt8} (hi : i < 8) (hj : j < 4) (ht : t = 4 * i + j) (hD : D.length = 32) (hc : D[t]? = some c) (hK : Keep (fun x => x = B) w1 wr) (hC : BAt wr 25 B (upTo D (4 * i + j))) :
    InR w1 B D i (.int .i64 ((j : Int) + 1)) (wr.setCell ⟨B, t, none⟩ (.int .u8 ((c.toNat : Nat) : Int))) := by
  refine ⟨j + 1, by omega, by rw [Int.natCast_add]; rfl, hK.setCell _ _ (.inl rfl), ?_⟩
  have h := hC.set t c
  rw [← ht, upTo_set D t hD (by omega) c hc, ht] at h
  rw [ht]; exact h

set_option maxHeartbeats 4000000 in
theorem sha_any {w : World} {v : Value} {b : List UInt8} (h : Seen w 1 v b.length (bcells b)) (hb : b.length ≤ 1000000) :
    Calls Tryd.prog 15 #[v] w fun e w' => e = .returned (.agg (bC (sumOf b))) ∧ Keep (fun _ => False) w w' := by
  obtain ⟨D, hD⟩ : ∃ D, D = sumOf b := ⟨_, rfl⟩
  have hDl : D.length = 32 := by rw [hD]; rfl
  have hDs : (bC D).size = 32 := by rw [bC_size, hDl]
  rw [← hD]
  have HD := Lib.hid hD
  clear hD
  obtain ⟨Z, HZ, hZ, HZZ⟩ := z32
  obtain ⟨Z8, HZ8, hZ8⟩ := z8
  have HZ8' : Hid (Z8 = wC (part 8 [])) := Lib.hid (by
    have h1 := HZ8.out w
    rw [Tryd.zero8 w] at h1
    simpa using h1.symm)
  obtain ⟨Z64, HZ64, hZ64, HZZ64⟩ := z64
  obtain ⟨i0, hi0, hz0, hz1, hz2⟩ := info_parts Tryd.infoB
  have HS := Lib.hid h
  obtain ⟨P, hP⟩ : ∃ P, P = primesB 310 := ⟨_, rfl⟩
  have hPl : P.length = 64 := by rw [hP]; exact primes_len
  have HP := Lib.hid hP
  obtain ⟨n, hn⟩ : ∃ n, n = b.length := ⟨_, rfl⟩
  have HN := Lib.hid hn
  rw [← hn] at h hb
  obtain ⟨_, ab, cap, rfl, hlc, hcm, _⟩ := h
  unfold maxLen at hcm
  have HPR := Lib.hid (fun (w9 : World) => primes_any (w := w9))
  rw [← hP] at HPR
  clear hP hn
  have K0 := Lib.hid ((Keep.refl (fun _ => False) w).alloc (.cells Z 25))
  have B0 : Hid ((w.alloc (.cells Z 25)).heap[w.heap.size]? = some (.cells Z 25 (0, 0))) := Lib.hid (heap_alloc_new w _)
  go_enter Tryd.func15, Tryd.ntmps15
  go_wp2_with (first | (refine wpList_alloc_arr HZ rfl rfl ?_))
  generalize w.alloc (.cells Z 25) = w1 at *
  refine (HPR.out _).mono ?_
  rintro e w2 ⟨vp, rfl, hrp, kp, np⟩
  obtain ⟨g, o, cp, rfl, hcp1, hcp2⟩ := hrp.full (by omega)
  have K2 := Lib.hid (K0.out.trans kp (fun _ h => h.elim))
  have B2 : Hid (w2.heap[w.heap.size]? = some (.cells Z 25 (0, 0))) := Lib.hid ((kp.block _ (lt_of_block B0.out) (fun h => h)).trans B0.out)
  have RP := Lib.hid hrp
  have hgl := hrp.lt (k := g) rfl
  have hw2 := K2.out.size
  have hB2 := lt_of_block B2.out
  have hng : w.heap.size ≤ g := by have := np g rfl; have := K0.out.size; omega
  have hng2 : w.heap.size ≠ g := by
    intro e
    have h1 := np g rfl
    have h2 := lt_of_block B0.out
    omega
  clear hrp kp np
  have K4 := Lib.hid ((K2.out.alloc (.cells Z64 40)).alloc (.cells Z8 33))
  have B4 := Lib.hid (((((Keep.refl (fun _ => False) w2).alloc (.cells Z64 40)).alloc (.cells Z8 33)).block _ (lt_of_block B2.out) (fun h => h)).trans B2.out)
  have R4 := Lib.hid (RP.out.keep (((Keep.refl (fun _ => False) w2).alloc (.cells Z64 40)).alloc (.cells Z8 33)) (fun _ _ h => h))
  have C4 : Hid (WAt ((w2.alloc (.cells Z64 40)).alloc (.cells Z8 33)) 40 w2.heap.size (part 64 (shaK.take 0))) := Lib.hid (by
    rw [HZZ64.out]; exact (WAt.new w2 _ _).alloc _)
  have D4 : Hid (WAt ((w2.alloc (.cells Z64 40)).alloc (.cells Z8 33)) 33 (w2.heap.size + 1) (part 8 ((stL iv).take 0))) := Lib.hid (by
    have h9 := heap_alloc2_new w2 (.cells Z64 40) (.cells Z8 33)
    rw [HZ8'.out] at h9 ⊢; exact h9)
  go_wp2_with (first | (refine wpList_alloc_arr HZ64 rfl rfl ?_) | (refine wpList_alloc_arr HZ8 rfl rfl ?_))
  generalize (w2.alloc (.cells Z64 40)).alloc (.cells Z8 33) = w4 at *
  obtain ⟨BK, hBK⟩ : ∃ BK, BK = w2.heap.size := ⟨_, rfl⟩
  rw [← hBK] at C4 D4 hgl hw2 hB2 ⊢
  have HBK := Lib.hid hBK
  clear hBK
  go_loopw [6] (fun i wr => NumR w4 BK (BK + 1) i wr) (fun i _ => 64 - (intOf i).toNat)
  case atStart => exact ⟨0, by omega, rfl, Keep.refl _ w4, C4.out, D4.out⟩
  case round =>
    obtain ⟨k, hk, rfl, hK, hA, hH⟩ := hrel.ex
    clear hrel
    have HK := Lib.hid hK
    have HA := Lib.hid hA
    have HH := Lib.hid hH
    clear hK hA hH
    by_cases hlt : k < 64
    · have hkP : k < P.length := by omega
      have c0 : wr.cell? ⟨g, o + k, none⟩ = some (.int .u64 ((P[k] : Nat) : Int)) := by
        have := (R4.out.keep HK.out (by intro x hx; simp [Value.ownBlock] at hx; omega)).cellAt k (by omega)
        rw [this]; exact pcells_get P k hkP
      have HZP := Lib.hid (P_n64 P HP.out k hkP)
      have HKG := Lib.hid (K_get P HP.out k hkP)
      have HHG := Lib.hid (fun h8 => H_get P HP.out k hkP h8)
      obtain ⟨a, ha⟩ : ∃ a, a = shaK.getD k 0 := ⟨_, rfl⟩
      rw [← ha] at HKG
      have HAA := Lib.hid ha
      clear ha
      generalize P[k] = p at *
      have q0 := HA.out.cell k (by rw [part_length _ _ (by rw [List.length_take]; exact Nat.le_trans (Nat.min_le_left _ _) (by omega))]; omega)
      have q1 := HA.out.free k
      have hne : ¬ BK = BK + 1 := by omega
      by_cases h8 : k < 8
      · obtain ⟨bb, hbb⟩ : ∃ bb, bb = (stL iv).getD k 0 := ⟨_, rfl⟩
        have HH2 : Hid (rootB (UInt64.ofNat p) false = bb) := Lib.hid (by rw [hbb]; exact HHG.out h8)
        have HBB := Lib.hid hbb
        clear hbb
        have q2 := HH.out.cell k (by rw [part_length _ _ (by rw [List.length_take]; exact Nat.le_trans (Nat.min_le_left _ _) (by omega))]; omega)
        have q3 := HH.out.free k
        go_wp2_with fail
        (with_reducible refine (root_z _ (UInt64.ofNat p) HZP.out true a HKG.out).mono ?_)
        rintro e w5 ⟨rfl, rfl⟩
        go_wp2_with fail
        (with_reducible refine (root_z _ (UInt64.ofNat p) HZP.out false bb HH2.out).mono ?_)
        rintro e w5 ⟨rfl, rfl⟩
        go_wp2
        go_roundw
        case rel =>
          (repeat apply Exists.intro)
          exact NumR.step h8 hne HK.out HA.out HH.out HAA.out HBB.out
        case measure => simp [intOf]; omega
      · go_wp2_with fail
        (with_reducible refine (root_z _ (UInt64.ofNat p) HZP.out true a HKG.out).mono ?_)
        rintro e w5 ⟨rfl, rfl⟩
        go_wp2
        go_roundw
        case rel =>
          (repeat apply Exists.intro)
          exact NumR.step' hlt (by omega) hne HK.out HA.out HH.out HAA.out
        case measure => simp [intOf]; omega
    · obtain rfl : k = 64 := by omega
      have A5 : Hid (WAt wr 40 BK shaK) := Lib.hid HA.out
      have H5 : Hid (WAt wr 33 (BK + 1) (stL iv)) := Lib.hid HH.out
      have hBKw : w.heap.size < BK := by omega
      have B5 : Hid (wr.heap[w.heap.size]? = some (.cells Z 25 (0, 0))) := Lib.hid ((HK.out.block _ (lt_of_block B4.out) (by omega)).trans B4.out)
      have K5 := Lib.hid (K4.out.trans HK.out (fun x e => .inr (by have := K0.out.size; omega)))
      have S5 := Lib.hid (HS.out.keep K5.out (fun _ _ _ h => h))
      have hsz5 := lt_of_block H5.out
      have HB5 := Lib.hid hsz5
      obtain ⟨s0, hs0⟩ : ∃ s0, s0 = iv := ⟨_, rfl⟩
      rw [← hs0] at H5
      have HS0 := Lib.hid hs0
      obtain ⟨KK, hKK⟩ : ∃ KK, KK = shaK := ⟨_, rfl⟩
      rw [← hKK] at A5
      have HKK := Lib.hid hKK
      clear hs0 hKK
      go_wp2_with (at_builtin; go_loud (refine wpList_append_row _ rfl (.const (.slice none 0 0)) (.tmp 35) rfl Tryd.underlying22 hi0 hz0 hz1 hz2 rfl rfl (Row.nil wr _ _) rfl (Seen.srcS (S5.out) Tryd.underlying22 (bcells_one b)) ?c3 ?c4 ?grow))
      case c3 => have := HN.out; simp only [maxLen]; omega
      case c4 => have := HN.out; omega
      case grow =>
        intro v6 w6 r6 k6 n6 _
        have K6 := Lib.hid (k6.mono (G := fun _ => False) (fun x _ h => by simp [Value.ownBlock] at h))
        have N6 : Hid (∀ x, v6.ownBlock = some x → wr.heap.size ≤ x) := Lib.hid (fun x e => by
          rcases n6 x e with h | h
          · simp [Value.ownBlock] at h
          · exact h.1)
        have R6 : Hid (Row w6 5 1 v6 b.length (bcells b)) := Lib.hid (by simpa using r6)
        have hbl : b.length ≤ 1000000 := by have := HN.out; omega
        clear r6 k6 n6
        go_wp2_with (at_builtin; go_loud (refine wpList_append_row _ rfl (.tmp 36) (.tmp 37) rfl Tryd.underlying22 hi0 hz0 hz1 hz2 rfl rfl (R6.out.alloc _) rfl (Src.lit Tryd.underlying22 #[.int .u8 128] _ 1 1 rfl rfl ?c2) ?c3 ?c4 ?grow))
        case c2 => simp [Value.oneCell']
        case c3 => simp only [maxLen]; omega
        case c4 => omega
        case grow =>
          intro v7 w7 r7 k7 n7 _
          have K7 := Lib.hid ((K6.out.alloc (.cells #[.int .u8 128] 5)).trans k7 (fun x e => .inr (N6.out x e)))
          have N7 : Hid (∀ x, v7.ownBlock = some x → wr.heap.size ≤ x) := Lib.hid (fun x e => by
            rcases n7 x e with h | h
            · exact N6.out x h
            · have h9 : (w6.alloc (.cells #[.int .u8 128] 5)).heap.size = w6.heap.size + 1 := World.size_alloc ..
              have := K6.out.size; omega)
          have R7 : Hid (Row w7 5 1 v7 (padZ b 0).length (bcells (padZ b 0))) := Lib.hid (by
            have e1 : bcells (padZ b 0) = bcells b ++ [Value.int .u8 128] := by simp [padZ, bcells]
            rw [padZ_len, e1]; exact r7)
          obtain ⟨a7, c7, rfl, _, _⟩ := r7.slice
          clear r7 k7 n7
          obtain ⟨BW, hBW⟩ : ∃ BW, BW = wr.heap.size := ⟨_, rfl⟩
          rw [← hBW] at N7 HB5
          have HBW := Lib.hid hBW
          clear hBW
          go_wp2
          go_loopw [7] (fun v7 w9 => PadR wr b BW v7 w9) (fun v7 _ => zerosN b.length + b.length + 1 - (match v7 with | .slice _ l _ => l | _ => 0))
          case atStart => exact ⟨0, by omega, R7.out, K7.out, N7.out⟩
          case round =>
            obtain ⟨j, hj, hR, hK, hN⟩ := hrel.ex
            clear hrel
            have HRj := Lib.hid hR
            have HKj := Lib.hid hK
            have HNj := Lib.hid hN
            obtain ⟨aj, cj, rfl, _, _⟩ := hR.slice
            obtain ⟨m, hm⟩ : ∃ m, m = (padZ b j).length := ⟨_, rfl⟩
            rw [← hm] at HRj HNj ⊢
            rw [padZ_len] at hm
            have hzl : zerosN b.length < 64 := by unfold zerosN; omega
            have hmod : (j = zerosN b.length) ↔ m % 64 = 56 := by unfold zerosN at hj ⊢; omega
            have HM := Lib.hid hm
            clear hR hK hN
            by_cases hlt : j = zerosN b.length
            · have hd : (((m : Int) % 64) != 56) = false := by
                have := hmod.1 hlt
                rw [bne_eq_false_iff_eq]; omega
              have R8 : Hid (Row wr 5 1 (.slice aj m cj) (padE b 0).length (bcells (padE b 0))) := Lib.hid (by
                rw [padE_zero, ← hlt, padZ_len, ← HM.out]; exact HRj.out)
              have HNB : Hid (n = b.length) := HN
              have e8 : ((n : Int) * 8) % (18446744073709551616 : Int) = (n : Int) * 8 := by omega
              clear hmod hm hzl
              go_wp2
              obtain ⟨Nn, hNn⟩ : ∃ Nn, Nn = n * 8 := ⟨_, rfl⟩
              have HNE8 : Hid ((n : Int) * 8 = (Nn : Int)) := Lib.hid (by omega)
              have hnn8 : (0 : Int) ≤ (n : Int) * 8 := by omega
              have HNN : Hid (Nn = b.length * 8) := Lib.hid (by rw [hNn, HNB.out])
              have HNM := Lib.hid HM.out
              clear hNn
              go_loopw [7, 9] (fun v7 i w9 => LenR _ b BW v7 i w9) (fun _ i _ => (intOf i + 1).toNat)
              case atStart => exact ⟨0, 7, by omega, by omega, rfl, R8.out, HKj.out, HNj.out⟩
              case round =>
                obtain ⟨j, z, hj, hz, rfl, hR, hK, hN⟩ := hrel.ex
                clear hrel
                have HRj := Lib.hid hR
                have HKj := Lib.hid hK
                have HNj := Lib.hid hN
                obtain ⟨aj, cj, rfl, _, _⟩ := hR.slice
                obtain ⟨m, hm⟩ : ∃ m, m = (padE b j).length := ⟨_, rfl⟩
                rw [← hm] at HRj HNj ⊢
                rw [padE_len b j hj] at hm
                have hzl : zerosN b.length < 64 := by unfold zerosN; omega
                have hm3 : m ≤ 2000000 := by omega
                have HM := Lib.hid hm
                have HZz := Lib.hid hz
                clear hR hK hN hm hzl
                by_cases hlt : j < 8
                · obtain ⟨q, rfl⟩ : ∃ q : Nat, z = (q : Int) := ⟨7 - j, by omega⟩
                  have hq : q = 7 - j := by omega
                  obtain ⟨e, he⟩ : ∃ e, e = 8 * q := ⟨_, rfl⟩
                  have he1 : 8 * (q : Int) = (e : Int) := by omega
                  have he2 : (e : Int) ≤ 56 := by omega
                  have he3 : (0 : Int) ≤ (e : Int) := by omega
                  obtain ⟨c, hc, HC⟩ : ∃ c : UInt8, ((n : Int) * 8 / 2 ^ e) % (256 : Int) = ((c.toNat : Nat) : Int) ∧ Hid (c = UInt8.ofNat (Nn / 2 ^ e)) := ⟨_, by rw [HNE8.out]; exact u8_of Nn e, Lib.hid rfl⟩
                  have HCC : Hid (padE b j ++ [c] = padE b (j + 1)) := Lib.hid (by rw [HC.out, HNN.out, he, hq]; exact padE_next b j hlt)
                  have HQ := Lib.hid hq
                  clear hz hq he
                  go_wp2_with (at_builtin; go_loud (refine wpList_append_row _ rfl (.tmp 54) (.tmp 61) rfl Tryd.underlying22 hi0 hz0 hz1 hz2 rfl rfl (HRj.out.alloc _) rfl (Src.lit Tryd.underlying22 #[.int .u8 ((c.toNat : Nat) : Int)] _ 1 1 rfl rfl ?c2) ?c3 ?c4 ?grow))
                  case c2 => simp [Value.oneCell']
                  case c3 => simp only [maxLen]; omega
                  case c4 => omega
                  case grow =>
                    intro v8 w8 r8 k8 n8 _
                    have K8 := Lib.hid ((HKj.out.alloc (.cells #[.int .u8 ((c.toNat : Nat) : Int)] 5)).trans k8 (fun x e => .inr (by have := HBW.out; have := HNj.out x e; omega)))
                    have N8 : Hid (∀ x, v8.ownBlock = some x → BW ≤ x) := Lib.hid (fun x e => by
                      rcases n8 x e with h | h
                      · exact HNj.out x h
                      · have h9 : (wr.alloc (.cells #[.int .u8 ((c.toNat : Nat) : Int)] 5)).heap.size = wr.heap.size + 1 := World.size_alloc ..
                        have := HKj.out.size; have := HBW.out; omega)
                    have R8 : Hid (Row w8 5 1 v8 (padE b (j + 1)).length (bcells (padE b (j + 1)))) := Lib.hid (by
                      have e1 : bcells (padE b (j + 1)) = bcells (padE b j) ++ [Value.int .u8 ((c.toNat : Nat) : Int)] := by rw [← HCC.out]; simp [bcells]
                      rw [padE_len b (j + 1) (by omega), e1, show b.length + 1 + zerosN b.length + (j + 1) = m + 1 by have := HM.out; omega]; exact r8)
                    obtain ⟨a8, c8, rfl, _, _⟩ := r8.slice
                    clear r8 k8 n8
                    go_wp2
                    go_roundw
                    case rel =>
                      (repeat apply Exists.intro)
                      exact ⟨j + 1, (q : Int) - 1, by omega, by have := HQ.out; omega, rfl, R8.out, K8.out, N8.out⟩
                    case measure => simp [intOf]
                · obtain rfl : j = 8 := by omega
                  obtain rfl : z = -1 := by omega
                  obtain ⟨M, hM⟩ : ∃ M, M = padded b := ⟨_, rfl⟩
                  have hMl : M.length % 64 = 0 := by rw [hM]; exact padded_len b
                  have hMm : M.length = m := by rw [hM, ← padE_full, padE_len b 8 (by omega)]; exact HM.out.symm
                  have R9 : Hid (Row wr 5 1 (.slice aj m cj) m (bcells M)) := Lib.hid (by rw [hM, ← padE_full]; exact HRj.out)
                  have HMD := Lib.hid hM
                  have HML := Lib.hid (And.intro hMl hMm)
                  have A9 := Lib.hid (A5.out.keep HKj.out (fun h => h))
                  have H9 := Lib.hid (H5.out.keep HKj.out (fun h => h))
                  have B9 : Hid (wr.heap[w.heap.size]? = some (.cells Z 25 (0, 0))) := Lib.hid ((HKj.out.block _ (lt_of_block B5.out) (fun h => h)).trans B5.out)
                  have K9 := Lib.hid (K5.out.trans HKj.out (fun _ h => h.elim))
                  have hBWK : BK + 1 < BW := HB5.out
                  have hmm : m % 64 = 0 := by rw [← hMm]; exact hMl
                  clear hM hMl hMm hz
                  go_wp2
                  go_loopw [10] (fun i w9 => AllR _ (BK + 1) s0 M i w9) (fun i _ => m - (intOf i).toNat)
                  case atStart => exact ⟨0, 0, rfl, by omega, rfl, Keep.refl _ _, H9.out⟩
                  case round =>
                    obtain ⟨k, t, ht, hk, rfl, hK, hW⟩ := hrel.ex
                    clear hrel
                    have HKb := Lib.hid hK
                    have HWb := Lib.hid hW
                    have HTK := Lib.hid ht
                    have htm : t ≤ m := by have := HML.out.2; omega
                    clear hK hW
                    by_cases hlt : t < m
                    · have hm64 : t + 64 ≤ m := by omega
                      obtain ⟨r, hr⟩ : ∃ r, r = mixN s0 M k := ⟨_, rfl⟩
                      have HE : Hid (∀ r', r' = mixB r ((M.drop t).take 64) → r' = mixN s0 M (k + 1)) := Lib.hid (by rintro r' rfl; rw [mixN, hr, ht])
                      have HW' := HWb
                      rw [← hr] at HW'
                      obtain ⟨q0, q1, q2, q3, q4, q5, q6, q7, -⟩ := HW'.out.st8
                      have A10 := A9.out.keep HKb.out (by omega)
                      have hqr : wr.rangeAt BK 0 (ucells KK) := A10.range
                      have hinf : (Tryd.prog.info? 40).map (·.size) = some (ucells KK).length := by rw [ucells_length, HKK.out]; exact Tryd.info64
                      have hun := Tryd.underlying40
                      have hcutL : Hid (((M.drop t).take 64).length = 64) := Lib.hid (by rw [List.length_take, List.length_drop]; have := HML.out.2; omega)
                      have RS := Lib.hid (R9.out.keep HKb.out (by intro x hx e; subst e; have := HNj.out _ hx; omega)).seen
                      obtain ⟨ga, oa, rfl⟩ : ∃ ga oa, aj = some ⟨ga, oa, none⟩ := by
                        obtain ⟨g', o', c', hv, _, _⟩ := R9.out.full (by omega)
                        simp only [Value.slice.injEq] at hv
                        exact ⟨g', o', hv.1⟩
                      obtain ⟨a', c', hsv, hcj1, hcj2⟩ := R9.out.slice
                      simp only [Value.slice.injEq] at hsv
                      have hsv2 := hsv.2.2
                      rw [← hsv2] at hcj1 hcj2
                      clear hsv hsv2
                      have hcj3 : (cj : Int) ≤ 9223372036854775807 := by unfold maxLen at hcj2; omega
                      have HMX := Lib.hid (fun (w9 : World) (k9 : Keep (fun _ => False) wr w9) => block_any (s := r) (v := .slice (some ⟨ga, oa + t, none⟩) 64 (cj - t)) (by rw [hcutL.out]; exact seen_cut (RS.out.keep k9 (fun _ _ _ h => h)) t 64 (by omega) HML.out.2 rfl (cj - t) (by omega) (by omega)) hcutL.out)
                      rw [← HKK.out] at HMX
                      obtain ⟨Lx, hLx⟩ : ∃ Lx, Lx = stL (mixB r ((M.drop t).take 64)) := ⟨_, rfl⟩
                      have hmx8 : (wC Lx).size = 8 := by rw [wC_size, hLx]; rfl
                      rw [← hLx] at HMX
                      have HE2 : Hid (Lx = stL (mixN s0 M (k + 1))) := Lib.hid (by rw [hLx, HE.out _ rfl])
                      clear hLx
                      have hi1 : (t : Int) + 64 ≤ (cj : Int) := by omega
                      have hw1 : IntKind.i64.wrap ((t : Int) + 64) = (t : Int) + 64 := by simp [IntKind.wrap, IntKind.bits, IntKind.signed]; omega
                      have hne : ¬ cj = t := by omega
                      have e1 : ((t : Int) + 64).toNat = t + 64 := by omega
                      have e2 : t + 64 - t = 64 := by omega
                      have e3 : (0 : Int) ≤ (t : Int) := by omega
                      have e4 : (t : Int) ≤ (t : Int) + 64 := by omega
                      clear hr ht A10
                      go_wp2_with fail
                      have hs8' : (wC (stL r)).size = 8 := rfl
                      have hk64 : (wC KK).size = 64 := by rw [wC_size, HKK.out]; rfl
                      refine wp_region_any (by kernel_rfl) ?_
                      change wpAny _ _ _ _ _ _ _ (World.drew _)
                      have KD : Hid (Keep (fun _ => False) wr wr.drew) := Lib.hid ((Keep.refl _ wr).drew)
                      have HWD := Lib.hid (HW'.out.drew)
                      have AD : Hid (WAt wr.drew 40 BK KK) := Lib.hid (A9.out.keep HKb.out (by omega)).drew
                      clear q0 q1 q2 q3 q4 q5 q6 q7 hqr
                      generalize wr.drew = wd at KD HWD AD ⊢
                      refine wpAny_take (i := 1) (v := .slice (some ⟨ga, oa, none⟩) m cj) rfl (by kernel_rfl) (by kernel_rfl) (by kernel_rfl) (fun _ _ _ h => h) (Or.inl ⟨by rfl, fun w => by rfl⟩) ?_
                      simp only [Act.put, List.getElem_toArray, List.getElem_cons_zero, List.getElem_cons_succ, List.setIfInBounds_toArray, List.set_cons_succ, List.set_cons_zero]
                      refine wpAny_take (i := 2) (v := .int .i64 (t : Int)) rfl (by kernel_rfl) (by kernel_rfl) (by kernel_rfl) (fun _ _ _ h => h) (Or.inl ⟨by rfl, fun w => by rfl⟩) ?_
                      simp only [Act.put, List.getElem_toArray, List.getElem_cons_zero, List.getElem_cons_succ, List.setIfInBounds_toArray, List.set_cons_succ, List.set_cons_zero]
                      refine wpAny_take (i := 3) (v := .int .i64 (t : Int)) rfl (by kernel_rfl) (by kernel_rfl) (by kernel_rfl) (fun _ _ _ h => h) (Or.inl ⟨by rfl, fun w => by rfl⟩) ?_
                      simp only [Act.put, List.getElem_toArray, List.getElem_cons_zero, List.getElem_cons_succ, List.setIfInBounds_toArray, List.set_cons_succ, List.set_cons_zero]
                      refine wpAny_take (i := 4) (v := .int .i64 ((t : Int) + 64)) rfl (by kernel_rfl) (by kernel_rfl) (by kernel_rfl) (fun _ _ _ h => h) (Or.inl ⟨by rfl, fun w => by go_simp⟩) ?_
                      simp only [Act.put, List.getElem_toArray, List.getElem_cons_zero, List.getElem_cons_succ, List.setIfInBounds_toArray, List.set_cons_succ, List.set_cons_zero]
                      refine wpAny_take (i := 5) (v := .slice (some ⟨ga, oa + t, none⟩) 64 (cj - t)) rfl (by kernel_rfl) (by kernel_rfl) (by kernel_rfl) (fun _ _ _ h => h) (Or.inl ⟨by rfl, fun w => by go_simp⟩) ?_
                      simp only [Act.put, List.getElem_toArray, List.getElem_cons_zero, List.getElem_cons_succ, List.setIfInBounds_toArray, List.set_cons_succ, List.set_cons_zero]
                      refine wpAny_ready (rs := [0, 6]) (by kernel_rfl) (by simp) ?_
                      refine AllReady.cons rfl (fun K hK => ?_) (AllReady.cons rfl (fun K hK => ?_) AllReady.nil)
                      · refine step_load_arr Tryd.underlying33 rfl (by rw [hs8']; exact Tryd.info8) rfl _ rfl (BK + 1) rfl HWD.out ?_
                        refine hK _ _ ?_
                        clear hK K
                        simp only [Act.put, List.getElem_toArray, List.getElem_cons_zero, List.getElem_cons_succ, List.setIfInBounds_toArray, List.set_cons_succ, List.set_cons_zero]
                        refine wpAny_ready (rs := [6]) (by kernel_rfl) (by simp) ?_
                        refine AllReady.cons rfl (fun K hK => ?_) AllReady.nil
                        refine step_load_arr Tryd.underlying40 rfl (by rw [hk64]; exact Tryd.info64) rfl _ rfl BK rfl AD.out ?_
                        refine hK _ _ ?_
                        clear hK K
                        simp only [Act.put, List.getElem_toArray, List.getElem_cons_zero, List.getElem_cons_succ, List.setIfInBounds_toArray, List.set_cons_succ, List.set_cons_zero]
                        refine wpAny_ready (rs := [7]) (by kernel_rfl) (by simp) ?_
                        refine AllReady.cons rfl (fun K hK => ?_) AllReady.nil
                        refine step_call3 rfl rfl (enters_of Tryd.func19 (by kernel_rfl) rfl) rfl rfl rfl ?_
                        refine (HMX.out wd KD.out).mono ?_
                        rintro e w5 ⟨h5, k5⟩
                        subst h5
                        have HR5 := HE2
                        have K6 := Lib.hid (KD.out.trans k5 (fun _ h => h.elim))
                        have HW5 := Lib.hid (HW'.out.keep K6.out (fun h => h))
                        clear k5
                        refine ⟨_, rfl, hK _ _ ?_⟩
                        clear hK K
                        simp only [Act.put, List.getElem_toArray, List.getElem_cons_zero, List.getElem_cons_succ, List.setIfInBounds_toArray, List.set_cons_succ, List.set_cons_zero]
                        refine wpAny_ready (rs := [8]) (by kernel_rfl) (by simp) ?_
                        refine AllReady.cons rfl (fun K hK => ?_) AllReady.nil
                        refine step_store_arr (by rw [hmx8]; exact Tryd.info8) (by rw [hmx8, hs8']) (wC_one _) rfl _ _ rfl (BK + 1) rfl rfl HW5.out ?_
                        intro w6 h6 k6
                        have H6 := Lib.hid h6
                        have KW := Lib.hid (HKb.out.trans (K6.out.mono (G := fun x => x = BK + 1) (fun _ _ h => h.elim)) (fun x e => .inl e))
                        have KW6 := Lib.hid (KW.out.trans k6 (fun x e => .inl e))
                        refine hK _ _ ?_
                        clear hK K h6 k6
                        refine wpAny_done (by kernel_rfl) ?_ _
                        go_wp2
                        go_roundw
                        case rel =>
                          (repeat apply Exists.intro)
                          exact ⟨k + 1, t + 64, by have := HTK.out; omega, by have := HML.out.2; omega, by rw [Int.natCast_add]; rfl, KW6.out, by rw [← HR5.out]; exact H6.out⟩
                        case measure => simp [intOf]; omega
                      · refine step_load_arr Tryd.underlying40 rfl (by rw [hk64]; exact Tryd.info64) rfl _ rfl BK rfl AD.out ?_
                        refine hK _ _ ?_
                        clear hK K
                        simp only [Act.put, List.getElem_toArray, List.getElem_cons_zero, List.getElem_cons_succ, List.setIfInBounds_toArray, List.set_cons_succ, List.set_cons_zero]
                        refine wpAny_ready (rs := [0]) (by kernel_rfl) (by simp) ?_
                        refine AllReady.cons rfl (fun K hK => ?_) AllReady.nil
                        refine step_load_arr Tryd.underlying33 rfl (by rw [hs8']; exact Tryd.info8) rfl _ rfl (BK + 1) rfl HWD.out ?_
                        refine hK _ _ ?_
                        clear hK K
                        simp only [Act.put, List.getElem_toArray, List.getElem_cons_zero, List.getElem_cons_succ, List.setIfInBounds_toArray, List.set_cons_succ, List.set_cons_zero]
                        refine wpAny_ready (rs := [7]) (by kernel_rfl) (by simp) ?_
                        refine AllReady.cons rfl (fun K hK => ?_) AllReady.nil
                        refine step_call3 rfl rfl (enters_of Tryd.func19 (by kernel_rfl) rfl) rfl rfl rfl ?_
                        refine (HMX.out wd KD.out).mono ?_
                        rintro e w5 ⟨h5, k5⟩
                        subst h5
                        have HR5 := HE2
                        have K6 := Lib.hid (KD.out.trans k5 (fun _ h => h.elim))
                        have HW5 := Lib.hid (HW'.out.keep K6.out (fun h => h))
                        clear k5
                        refine ⟨_, rfl, hK _ _ ?_⟩
                        clear hK K
                        simp only [Act.put, List.getElem_toArray, List.getElem_cons_zero, List.getElem_cons_succ, List.setIfInBounds_toArray, List.set_cons_succ, List.set_cons_zero]
                        refine wpAny_ready (rs := [8]) (by kernel_rfl) (by simp) ?_
                        refine AllReady.cons rfl (fun K hK => ?_) AllReady.nil
                        refine step_store_arr (by rw [hmx8]; exact Tryd.info8) (by rw [hmx8, hs8']) (wC_one _) rfl _ _ rfl (BK + 1) rfl rfl HW5.out ?_
                        intro w6 h6 k6
                        have H6 := Lib.hid h6
                        have KW := Lib.hid (HKb.out.trans (K6.out.mono (G := fun x => x = BK + 1) (fun _ _ h => h.elim)) (fun x e => .inl e))
                        have KW6 := Lib.hid (KW.out.trans k6 (fun x e => .inl e))
                        refine hK _ _ ?_
                        clear hK K h6 k6
                        refine wpAny_done (by kernel_rfl) ?_ _
                        go_wp2
                        go_roundw
                        case rel =>
                          (repeat apply Exists.intro)
                          exact ⟨k + 1, t + 64, by have := HTK.out; omega, by have := HML.out.2; omega, by rw [Int.natCast_add]; rfl, KW6.out, by rw [← HR5.out]; exact H6.out⟩
                        case measure => simp [intOf]; omega
                    · obtain rfl : t = m := by omega
                      have hkL : k = M.length / 64 := by have := HTK.out; have := HML.out.2; omega
                      obtain ⟨L, hL⟩ : ∃ L, L = stL (mixN s0 M k) := ⟨_, rfl⟩
                      have hLl : L.length = 8 := by rw [hL]; rfl
                      have HLL := Lib.hid hLl
                      have HDG : Hid (∀ i j, i < 8 → j < 4 → D[4 * i + j]? = some ((L.getD i 0) >>> UInt32.ofNat (24 - 8 * j)).toUInt8) := Lib.hid (fun i j hi hj => by
                        have e : D = digest (mixN s0 M k) := by rw [HD.out, sumOf, mixL, ← HMD.out, ← HS0.out, hkL]
                        rw [e, hL]; exact digest_get _ i j hi hj)
                      have W9 : Hid (WAt wr 33 (BK + 1) L) := Lib.hid (by rw [hL]; exact HWb.out)
                      have B10 : Hid (wr.heap[w.heap.size]? = some (.cells Z 25 (0, 0))) := Lib.hid ((HKb.out.block _ (lt_of_block B9.out) (by omega)).trans B9.out)
                      have K10 := Lib.hid (K9.out.trans HKb.out (fun x e => .inr (by omega)))
                      have K11 := Lib.hid (K10.out.alloc (.cells Z 25))
                      have B11 := Lib.hid ((((Keep.refl (fun _ => False) wr).alloc (.cells Z 25)).block _ (lt_of_block B10.out) (fun h => h)).trans B10.out)
                      have W11 := Lib.hid (W9.out.alloc (.cells Z 25))
                      have hBo := W9.out.lt
                      have C11 : Hid (BAt (wr.alloc (.cells Z 25)) 25 wr.heap.size (upTo D 0)) := Lib.hid (by
                        have h9 := heap_alloc_new wr (.cells Z 25)
                        rw [HZZ.out] at h9 ⊢
                        exact h9)
                      clear hkL hL hLl
                      go_wp2_with (first | (refine wpList_alloc_arr HZ rfl rfl ?_))
                      generalize wr.alloc (.cells Z 25) = w11 at *
                      obtain ⟨Bo, hBo2⟩ : ∃ Bo, Bo = wr.heap.size := ⟨_, rfl⟩
                      rw [← hBo2] at C11 hBo ⊢
                      clear hBo2
                      go_loopw [12] (fun i w9 => OutR w11 Bo D i w9) (fun i _ => 8 - (intOf i).toNat)
                      case atStart => exact ⟨0, by omega, rfl, Keep.refl _ w11, C11.out⟩
                      case round =>
                        obtain ⟨i, hi, rfl, hK, hC⟩ := hrel.ex
                        clear hrel
                        have HKo := Lib.hid hK
                        have HCo := Lib.hid hC
                        clear hK hC
                        by_cases hlt : i < 8
                        · obtain ⟨x, hx⟩ : ∃ x, x = L.getD i 0 := ⟨_, rfl⟩
                          have HXX := Lib.hid hx
                          clear hx
                          go_wp2
                          go_loopw [13] (fun j w9 => InR w11 Bo D i j w9) (fun j _ => 4 - (intOf j).toNat)
                          case atStart => exact ⟨0, by omega, rfl, HKo.out, HCo.out⟩
                          case round =>
                            obtain ⟨j, hj, rfl, hK, hC⟩ := hrel.ex
                            clear hrel
                            have HKi := Lib.hid hK
                            have HCi := Lib.hid hC
                            by_cases hlj : j < 4
                            · obtain ⟨tt, htt⟩ : ∃ tt, tt = 4 * i + j := ⟨_, rfl⟩
                              have he0 : 4 * (i : Int) + (j : Int) = (tt : Int) := by omega
                              obtain ⟨ee, hee⟩ : ∃ ee, ee = 24 - 8 * j := ⟨_, rfl⟩
                              have he1 : (24 : Int) - 8 * (j : Int) = (ee : Int) := by omega
                              have he2 : (ee : Int) ≤ 24 := by omega
                              have he3 : (0 : Int) ≤ (ee : Int) := by omega
                              have ht1 : (tt : Int) < 32 := by omega
                              have ht0 : (0 : Int) ≤ (tt : Int) := by omega
                              obtain ⟨c, hc, HC⟩ : ∃ c : UInt8, n32 x / 2 ^ ee % (256 : Int) = ((c.toNat : Nat) : Int) ∧ Hid (c = (x >>> UInt32.ofNat ee).toUInt8) := ⟨_, by_e x ee (by omega), Lib.hid rfl⟩
                              have HDc : Hid (D[tt]? = some c) := Lib.hid (by rw [htt, HC.out, HXX.out, hee]; exact HDG.out i j hlt hlj)
                              have cx : wr.cell? ⟨BK + 1, i, none⟩ = some (.int .u32 (n32 x)) := by rw [HXX.out]; exact (W11.out.keep hK (by omega)).cell i (by rw [HLL.out]; exact hlt)
                              obtain ⟨v0, q0⟩ : ∃ v0, wr.cell? ⟨Bo, tt, none⟩ = some v0 := ⟨_, hC.cell tt (by rw [upTo_length D _ hDl (by omega)]; omega)⟩
                              have q1 := hC.free tt
                              have HTT := Lib.hid htt
                              clear hK hC htt hee
                              go_wp2
                              go_roundw
                              case rel =>
                                (repeat apply Exists.intro)
                                exact InR.step hlt hlj HTT.out hDl HDc.out HKi.out HCi.out
                              case measure => simp [intOf]; omega
                            · obtain rfl : j = 4 := by omega
                              clear hK hC
                              go_wp2
                              go_roundw
                              case rel =>
                                (repeat apply Exists.intro)
                                exact ⟨i + 1, by omega, by go_num, HKi.out, HCi.out⟩
                              case measure => simp [intOf]; omega
                        · obtain rfl : i = 8 := by omega
                          have HF : Hid (BAt wr 25 Bo D) := Lib.hid (by have h9 := HCo.out; rw [upTo_full D hDl] at h9; exact h9)
                          have HB5' : Hid (wr.heap[w.heap.size]? = some (.cells Z 25 (0, 0))) := Lib.hid ((HKo.out.block _ (lt_of_block B11.out) (by omega)).trans B11.out)
                          have HKF := Lib.hid (K11.out.trans HKo.out (fun x e => .inr (by omega)))
                          go_wp2_with (first | (refine wpList_load_arr Tryd.underlying25 rfl (by rw [hDs]; exact Tryd.info32b) rfl _ rfl Bo rfl HF.out ?_) | (refine wpList_store_arr (by rw [hDs]; exact Tryd.info32b) (by rw [hDs, hZ]) (bC_one _) rfl _ _ rfl w.heap.size rfl rfl HB5'.out ?_; intro w13 h7 k7 z7; have H7 := Lib.hid h7; have K13 := Lib.hid k7; clear h7 k7 z7))
                          refine bodyPost_ret (results_arr1 Tryd.results15 _ _ w.heap.size rfl H7.out Tryd.underlying25 rfl (by rw [hDs]; exact Tryd.info32b)) rfl ?_
                          exact ⟨rfl, HKF.out.trans K13.out (fun b e => .inr (by omega))⟩
            · have hd : (((m : Int) % 64) != 56) = true := by
                have : ¬ m % 64 = 56 := fun h => hlt (hmod.2 h)
                rw [bne_iff_ne]; omega
              have hm3 : m ≤ 2000000 := by omega
              have hj2 : j < zerosN b.length := by omega
              clear hmod hm
              go_wp2_with (at_builtin; go_loud (refine wpList_append_row _ rfl (.tmp 43) (.tmp 44) rfl Tryd.underlying22 hi0 hz0 hz1 hz2 rfl rfl (HRj.out.alloc _) rfl (Src.lit Tryd.underlying22 #[.int .u8 0] _ 1 1 rfl rfl ?c2) ?c3 ?c4 ?grow))
              case c2 => simp [Value.oneCell']
              case c3 => simp only [maxLen]; omega
              case c4 => omega
              case grow =>
                intro v8 w8 r8 k8 n8 _
                have K8 := Lib.hid ((HKj.out.alloc (.cells #[.int .u8 0] 5)).trans k8 (fun x e => .inr (by have := HBW.out; have := HNj.out x e; omega)))
                have N8 : Hid (∀ x, v8.ownBlock = some x → BW ≤ x) := Lib.hid (fun x e => by
                  rcases n8 x e with h | h
                  · exact HNj.out x h
                  · have h9 : (wr.alloc (.cells #[.int .u8 0] 5)).heap.size = wr.heap.size + 1 := World.size_alloc ..
                    have := HKj.out.size; have := HBW.out; omega)
                have R8 : Hid (Row w8 5 1 v8 (padZ b (j + 1)).length (bcells (padZ b (j + 1)))) := Lib.hid (by
                  have e1 : bcells (padZ b (j + 1)) = bcells (padZ b j) ++ [Value.int .u8 0] := by rw [← padZ_next]; simp [bcells]
                  rw [padZ_len, e1, show b.length + 1 + (j + 1) = m + 1 by have := HM.out; omega]; exact r8)
                obtain ⟨a8, c8, rfl, _, _⟩ := r8.slice
                clear r8 k8 n8
                go_wp2
                go_roundw
                case rel =>
                  (repeat apply Exists.intro)
                  exact ⟨j + 1, by omega, R8.out, K8.out, N8.out⟩
                case measure => have := HM.out; simp; omega

end Go.Proofs.YtebijkpojlngpaaDoor.Sha
