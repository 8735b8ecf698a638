/- What sha.mix does: one block mixed into a state. -/
import Derived.Test.YtebijkpojlngpaaDoorShaC
import Derived.BigQuiet
namespace Go.Proofs.YtebijkpojlngpaaDoor.Sha
open Go.RowKit Go.Proofs.YtebijkpojlngpaaDoor
set_option maxRecDepth 100000

/-- The table of sha lies where the program lays it. -/
def Roots (w : World) : Prop := ∀ i, i < 64 → w.cell? ⟨0, i, none⟩ = some (.int .u32 (n32 (shaK.getD i 0)))
theorem Roots.lt {w : World} (h : Roots w) : 0 < w.heap.size := World.block_lt_of_cell? _ _ (h 0 (by omega))
theorem Roots.keep {F : Nat → Prop} {w w' : World} (h : Roots w) (hk : Keep F w w') (hF : ¬ F 0) : Roots w' :=
  fun i hi => (hk.cell h.lt hF i).trans (h i hi)

theorem _root_.Go.Proofs.YtebijkpojlngpaaDoor.Keep.drewN {F : Nat → Prop} {a w : World} (h : Keep F a w) (n : Nat) : Keep F a (w.drewN n) := ⟨h.os, h.tape, h.output, h.size, h.block⟩
theorem WAt.drewN {w : World} {t : TypeId} {g : Nat} {L : List UInt32} (h : WAt w t g L) (n : Nat) : WAt (w.drewN n) t g L := h
theorem stL_length (s : St) : (stL s).length = 8 := rfl

theorem turned_q (w : World) (x : UInt32) (i j k : Nat) (hi0 : 0 < i) (hi : i < 32) (hj0 : 0 < j) (hj : j < 32) (hk0 : 0 < k) (hk : k < 32) (zi zj zk : Int) (hzi : zi = (i : Int)) (hzj : zj = (j : Int)) (hzk : zk = (k : Int)) :
    ∀ nn, Calls Tryd.prog 21 #[.int .u32 (n32 x), .int .i64 zi, .int .i64 zj, .int .i64 zk] (w.drewN nn) fun e w2 => e = .returned (.int .u32 (n32 (t3 x i j k))) ∧ w2 = w.drewN nn := by
  intro nn
  subst hzi hzj hzk
  exact (turned_any x i j k hi0 hi hj0 hj hk0 hk).mono fun e w2 ⟨h1, h2⟩ => ⟨h1, h2.symm⟩

theorem turned_z (w : World) (x : UInt32) (i j k : Nat) (hi0 : 0 < i) (hi : i < 32) (hj0 : 0 < j) (hj : j < 32) (hk0 : 0 < k) (hk : k < 32) (zi zj zk : Int) (hzi : zi = (i : Int)) (hzj : zj = (j : Int)) (hzk : zk = (k : Int)) :
    Calls Tryd.prog 21 #[.int .u32 (n32 x), .int .i64 zi, .int .i64 zj, .int .i64 zk] w fun e w2 => e = .returned (.int .u32 (n32 (t3 x i j k))) ∧ w = w2 := by
  subst hzi hzj hzk
  exact turned_any x i j k hi0 hi hj0 hj hk0 hk

theorem Tryd.infoU32 : (Tryd.prog.info? 32).map (·.size) = some 1 := by kernel_rfl

section
variable {ops : Array Oper} {rest : List Oper} {o : Oper} {a : Act} {w : World} {Q : Exit → Act → World → Prop}

/-- A word of an array by value. -/
theorem wpList_index_word {t : TypeId} (n : Nat) (hu : Tryd.prog.underlying t = some (.array n 32)) (hg : o.guard = none) (x y : Operand) (ho : o.op = .index t x y) (L : List UInt32) (k : Nat) (hk : k < n) (hL : L.length = n) (hx : a.eval x = .agg (wC L)) (hy : a.eval y = .int .i64 (k : Int))
    (h : wpList Tryd.prog ops Q rest (a.put o.dst (.int .u32 (n32 (L.getD k 0)))) w) : wpList Tryd.prog ops Q (o :: rest) a w := by
  refine wpList_plain hg fun K hK => ?_
  obtain ⟨i, hi, hsz⟩ := Option.map_eq_some_iff.1 Tryd.infoU32
  have hru : (sizeOf 32).run Tryd.prog w = .ok 1 w := by simp [sizeOf, run_typeInfo w hi, hsz]
  have hpl : Tryd.prog.plainKey 32 = true := by kernel_rfl
  have p1 := run_part_plain (P := Tryd.prog) w hpl (xs := wC L) (off := k * 1) (by rw [Nat.mul_one, wC]; simp only [List.getElem?_toArray]; exact ucells_get L k (by omega))
  have h1 : (0 : Int) ≤ (k : Int) ∧ (k : Int) < (n : Int) := by omega
  have hrun : (Instr.index t (.agg (wC L)) (.int .i64 (k : Int))).run Tryd.prog w = .ok (.int .u32 (n32 (L.getD k 0))) w := by
    simp only [Instr.index, asIntOf, Sem.run_bind, Sem.run_pure, Result.andThen_ok, run_underlying hu, if_pos h1, hru, Int.toNat_natCast, p1]
  unfold Oper.wp execOp
  simp only [ho, hx, hy, Sem.run_bind, hrun, Result.andThen_ok, Sem.run_pure]
  exact hK _ _ h

end

theorem z8 : ∃ Z : Array Value, Hid (∀ w : World, (zeroValue 33).run Tryd.prog w = .ok (.agg Z) w) ∧ Z.size = 8 :=
  ⟨_, Lib.hid Tryd.zero8, by rw [wC_size, part_length _ _ (by simp)]⟩

/-- The first k words of the sum. -/
def addTo (s t : List UInt32) (k : Nat) : List UInt32 := (List.zipWith (· + ·) s t).take k ++ s.drop k
theorem addTo_length (s t : List UInt32) (k : Nat) (h : s.length = t.length) (hk : k ≤ s.length) : (addTo s t k).length = s.length := by simp [addTo, ← h]; omega
theorem addTo_get (s t : List UInt32) (k : Nat) (h : s.length = t.length) (hk : k < s.length) : (addTo s t k).getD k 0 = s.getD k 0 := by
  unfold addTo
  rw [List.getD_eq_getElem?_getD, List.getElem?_append_right (by simp; omega), List.getElem?_drop, List.getD_eq_getElem?_getD]
  simp [← h]
  congr 2; omega
theorem addTo_set (s t : List UInt32) (k : Nat) (h : s.length = t.length) (hk : k < s.length) : (addTo s t k).set k (s.getD k 0 + t.getD k 0) = addTo s t (k + 1) := by
  have hz : ((List.zipWith (· + ·) s t).take k).length = k := by simp [← h]; omega
  unfold addTo
  rw [List.set_append_right _ _ (by omega), hz, Nat.sub_self, List.drop_eq_getElem_cons hk, List.set_cons_zero, List.take_succ_eq_append_getElem (by simp [← h]; omega)]
  simp [List.getD_eq_getElem?_getD, List.getElem?_eq_getElem hk, List.getElem?_eq_getElem (show k < t.length by omega)]
theorem addTo_full (s t : St) : addTo (stL s) (stL t) 8 = stL (addS s t) := rfl

structure MixR (w3 : World) (s : St) (W : List UInt32) (a b c d e f g h i : Value) (wr : World) : Prop where
  ex : ∃ k : Nat, k ≤ 64 ∧ i = .int .i64 (k : Int) ∧ Keep (fun _ => False) w3 wr ∧ ∃ r : St, r = roundN s W k ∧ a = .int .u32 (n32 r.a) ∧ b = .int .u32 (n32 r.b) ∧ c = .int .u32 (n32 r.c) ∧ d = .int .u32 (n32 r.d) ∧ e = .int .u32 (n32 r.e) ∧ f = .int .u32 (n32 r.f) ∧ g = .int .u32 (n32 r.g) ∧ h = .int .u32 (n32 r.h)

structure MixS' (w3 : World) (B : Nat) (s t : List UInt32) (i : Value) (wr : World) : Prop where
  ex : ∃ k : Nat, k ≤ 8 ∧ i = .int .i64 (k : Int) ∧ Keep (fun x => x = B) w3 wr ∧ WAt wr 33 B (addTo s t k)

set_option maxHeartbeats 1000000 in
theorem mix_any {w : World} {v : Value} {s : St} {p : List UInt8} (hR : Roots w) (h : Seen w 1 v p.length (bcells p)) (hp : p.length = 64) :
    Calls Tryd.prog 16 #[.agg (wC (stL s)), v] w fun e w' => e = .returned (.agg (wC (stL (mixB s p)))) ∧ Keep (fun _ => False) w w' := by
  obtain ⟨Lm, hM⟩ : ∃ Lm, Lm = stL (mixB s p) := ⟨_, rfl⟩
  have hLml : Lm.length = 8 := by rw [hM]; rfl
  have hb8 : (wC Lm).size = 8 := by rw [wC_size, hLml]
  rw [← hM]
  have HM := Lib.hid hM
  have HML := Lib.hid hLml
  clear hM hLml
  obtain ⟨Z, HZ, hZ⟩ := z8
  obtain ⟨Z64, HZ64, hZ64, -⟩ := z64
  have HS := Lib.hid h
  have HR := Lib.hid hR
  have hs8 : (wC (stL s)).size = 8 := rfl
  obtain ⟨C, hC⟩ : ∃ C, C = wC (stL s) := ⟨_, rfl⟩
  rw [← hC] at hs8 ⊢
  have HC := Lib.hid hC
  rw [hp] at h
  have HP := Lib.hid hp
  clear hp
  obtain ⟨_, ab, cap, rfl, hlc, hcm, _⟩ := h
  have K1 : Hid (Keep (fun _ => False) w ((w.alloc (.cells C 33)).alloc (.cells Z 33))) := Lib.hid (((Keep.refl _ w).alloc _).alloc _)
  have A1 : Hid (((w.alloc (.cells C 33)).alloc (.cells Z 33)).heap[w.heap.size]? = some (.cells C 33 (0, 0))) := Lib.hid (heap_alloc2_old w _ _)
  have B1 : Hid (((w.alloc (.cells C 33)).alloc (.cells Z 33)).heap[w.heap.size + 1]? = some (.cells Z 33 (0, 0))) := Lib.hid (heap_alloc2_new w _ _)
  clear hR hC
  go_enter Tryd.func16, Tryd.ntmps16
  go_wp2_with (first | (refine wpList_box_arr rfl _ rfl rfl ?_) | (refine wpList_alloc_arr HZ rfl rfl ?_))
  generalize (w.alloc (.cells C 33)).alloc (.cells Z 33) = w1 at *
  refine (spread_any (HS.out.keep K1.out (fun _ _ _ h => h)) HP.out).mono ?_
  rintro e w2 ⟨rfl, k2⟩
  have hsz : (wC (sched p)).size = 64 := by rw [wC_size, sched_length]
  obtain ⟨W, hW⟩ : ∃ W, W = sched p := ⟨_, rfl⟩
  have hWl : W.length = 64 := by rw [hW]; exact sched_length p
  rw [← hW] at hsz ⊢
  have HWW := Lib.hid hW
  have K2 := Lib.hid ((K1.out.trans k2 (fun _ h => h.elim)).alloc (.cells (wC W) 40))
  have A2 : Hid (WAt (w2.alloc (.cells (wC W) 40)) 33 w.heap.size (stL s)) := Lib.hid (by
    refine WAt.alloc ?_ _
    have := (k2.block _ (lt_of_block A1.out) (fun h => h)).trans A1.out
    rw [HC.out] at this; exact this)
  have B2 : Hid ((w2.alloc (.cells (wC W) 40)).heap[w.heap.size + 1]? = some (.cells Z 33 (0, 0))) := Lib.hid
    ((((Keep.refl (fun _ => False) w2).alloc _).block _ (by have := lt_of_block B1.out; have := k2.size; omega) (fun h => h)).trans ((k2.block _ (lt_of_block B1.out) (fun h => h)).trans B1.out))
  have D2 : Hid (WAt (w2.alloc (.cells (wC W) 40)) 40 w2.heap.size W) := Lib.hid (WAt.new _ _ _)
  clear k2 hW
  go_wp2_with (first | (refine wpList_var_arr HZ64 (by rw [hsz]; exact Tryd.info64) (by rw [hsz, hZ64]) (wC_one _) rfl rfl rfl _ _ rfl rfl rfl ?_))
  generalize w2.alloc (.cells (wC W) 40) = w3 at *
  have c0 : w3.cell? ⟨w.heap.size, 0, none⟩ = some (.int .u32 (n32 s.a)) := A2.out.cell 0 (by rw [stL_length]; omega)
  have c1 : w3.cell? ⟨w.heap.size, 1, none⟩ = some (.int .u32 (n32 s.b)) := A2.out.cell 1 (by rw [stL_length]; omega)
  have c2 : w3.cell? ⟨w.heap.size, 2, none⟩ = some (.int .u32 (n32 s.c)) := A2.out.cell 2 (by rw [stL_length]; omega)
  have c3 : w3.cell? ⟨w.heap.size, 3, none⟩ = some (.int .u32 (n32 s.d)) := A2.out.cell 3 (by rw [stL_length]; omega)
  have c4 : w3.cell? ⟨w.heap.size, 4, none⟩ = some (.int .u32 (n32 s.e)) := A2.out.cell 4 (by rw [stL_length]; omega)
  have c5 : w3.cell? ⟨w.heap.size, 5, none⟩ = some (.int .u32 (n32 s.f)) := A2.out.cell 5 (by rw [stL_length]; omega)
  have c6 : w3.cell? ⟨w.heap.size, 6, none⟩ = some (.int .u32 (n32 s.g)) := A2.out.cell 6 (by rw [stL_length]; omega)
  have c7 : w3.cell? ⟨w.heap.size, 7, none⟩ = some (.int .u32 (n32 s.h)) := A2.out.cell 7 (by rw [stL_length]; omega)
  go_quiet (fail)
  have K3 := Lib.hid (K2.out.drewN nq)
  have A3 := Lib.hid (A2.out.drewN nq)
  have B3 : Hid ((w3.drewN nq).heap[w.heap.size + 1]? = some (.cells Z 33 (0, 0))) := Lib.hid B2.out
  have D3 := Lib.hid (D2.out.drewN nq)
  clear c0 c1 c2 c3 c4 c5 c6 c7
  generalize w3.drewN nq = w4 at *
  go_wp2_with (first | (refine wpList_load_arr Tryd.underlying40 rfl (by rw [hsz]; exact Tryd.info64) rfl _ rfl w2.heap.size rfl D3.out ?_))
  go_loopw [6, 7, 8, 9, 10, 11, 12, 13, 41] (fun a b c d e f g h i wr => MixR w4 s W a b c d e f g h i wr) (fun _ _ _ _ _ _ _ _ i _ => 64 - (intOf i).toNat)
  case atStart => exact ⟨0, by omega, rfl, Keep.refl _ w4, s, rfl, rfl, rfl, rfl, rfl, rfl, rfl, rfl, rfl⟩
  case round =>
    obtain ⟨k, hk, rfl, hK, r, hr, rfl, rfl, rfl, rfl, rfl, rfl, rfl, rfl⟩ := hrel.ex
    clear hrel
    have HK := Lib.hid hK
    have HRR := Lib.hid hr
    clear hK hr
    by_cases hlt : k < 64
    · have q0 := (HR.out.keep K3.out (fun h => h)).keep HK.out (fun h => h) k hlt
      have HKD := Lib.hid (show (round r (shaK.getD k 0) (W.getD k 0)) = roundN s W (k + 1) by rw [roundN, HRR.out])
      have hwd := fun {ops rest o a w Q} => wpList_index_word (ops := ops) (rest := rest) (o := o) (a := a) (w := w) (Q := Q) 64 Tryd.underlying40
      have HWD := Lib.hid (And.intro hlt hWl)
      generalize shaK.getD k 0 = kk at *
      obtain ⟨ww, hww⟩ : ∃ ww, ww = W.getD k 0 := ⟨_, rfl⟩
      rw [← hww] at HKD
      have HWW2 := Lib.hid hww
      clear hww
      have hx := n32_xor
      have ha := n32_add
      have hd := n32_and
      have hn := n32_not
      go_wp2_with (refine wpList_index_word 64 Tryd.underlying40 rfl _ _ rfl W k HWD.out.1 HWD.out.2 rfl rfl ?_; rw [← HWW2.out])
      go_quiet (first | (go_at_call 21; refine Calls.quiet_of_same (turned_q _ r.e 6 11 25 (by decide) (by decide) (by decide) (by decide) (by decide) (by decide) _ _ _ rfl rfl rfl _)))
      have HK2 := Lib.hid (HK.out.drewN nq)
      clear q0
      generalize wr.drewN nq = w5 at *
      go_wp2_with fail
      with_reducible refine (turned_z _ r.a 2 13 22 (by decide) (by decide) (by decide) (by decide) (by decide) (by decide) _ _ _ (by decide) (by decide) (by decide)).mono ?_
      rintro e w6 ⟨rfl, rfl⟩
      go_wp2
      go_roundw
      case rel =>
        (repeat apply Exists.intro)
        rw [n32_add, n32_add]
        exact ⟨k + 1, by omega, by go_num, HK2.out, _, HKD.out, rfl, rfl, rfl, rfl, rfl, rfl, rfl, rfl⟩
      case measure => simp [intOf]; omega
    · obtain rfl : k = 64 := by omega
      have HK4 := Lib.hid (K3.out.trans HK.out (fun _ h => h.elim))
      have HA4 := Lib.hid (A3.out.keep HK.out (fun h => h))
      have HB4 : Hid (wr.heap[w.heap.size + 1]? = some (.cells Z 33 (0, 0))) := Lib.hid ((HK.out.block _ (lt_of_block B3.out) (fun h => h)).trans B3.out)
      have HMM : Hid (Lm = addTo (stL s) (stL r) 8) := Lib.hid (by rw [addTo_full, HM.out, mixB, HRR.out, HWW.out])
      obtain ⟨Lr, hLr⟩ : ∃ Lr, Lr = stL r := ⟨_, rfl⟩
      have hLl : Lr.length = 8 := by rw [hLr]; rfl
      obtain ⟨Ls, hLs⟩ : ∃ Ls, Ls = stL s := ⟨_, rfl⟩
      have hLsl : Ls.length = 8 := by rw [hLs]; rfl
      have HLr := Lib.hid hLr
      rw [← hLr, ← hLs] at HMM
      rw [← hLs] at HA4
      have HLL := Lib.hid (And.intro hLl (And.intro hLsl HML.out))
      have HAG : Hid (Value.agg #[Value.int .u32 (n32 r.a), Value.int .u32 (n32 r.b), Value.int .u32 (n32 r.c), Value.int .u32 (n32 r.d), Value.int .u32 (n32 r.e), Value.int .u32 (n32 r.f), Value.int .u32 (n32 r.g), Value.int .u32 (n32 r.h)] = .agg (wC Lr)) := Lib.hid (by rw [hLr]; rfl)
      clear hLr hLs hLl hLsl
      go_wp2
      go_loopw [102] (fun i wq => MixS' wr w.heap.size Ls Lr i wq) (fun i _ => 8 - (intOf i).toNat)
      case atStart => exact ⟨0, by omega, rfl, Keep.refl _ wr, by simpa [addTo] using HA4.out⟩
      case round =>
        obtain ⟨k, hk, rfl, hK, hA⟩ := hrel.ex
        clear hrel
        have HKq := Lib.hid hK
        have HAq := Lib.hid hA
        by_cases hlt : k < 8
        · have c0 := hA.cell k (by rw [addTo_length _ _ _ (by rw [HLL.out.1, HLL.out.2.1]) (by rw [HLL.out.2.1]; omega), HLL.out.2.1]; omega)
          rw [addTo_get _ _ _ (by rw [HLL.out.1, HLL.out.2.1]) (by rw [HLL.out.2.1]; omega)] at c0
          have c1 := hA.free k
          have ha := n32_add
          have HST : Hid (∀ (w9 : World), WAt w9 33 w.heap.size (addTo Ls Lr k) → WAt (w9.setCell ⟨w.heap.size, k, none⟩ (.int .u32 (n32 (Ls.getD k 0 + Lr.getD k 0)))) 33 w.heap.size (addTo Ls Lr (k + 1))) := Lib.hid (fun w9 h9 => by
            have := h9.set k (Ls.getD k 0 + Lr.getD k 0)
            rwa [addTo_set _ _ _ (by rw [HLL.out.1, HLL.out.2.1]) (by rw [HLL.out.2.1]; omega)] at this)
          obtain ⟨y, hy⟩ : ∃ y, y = Lr.getD k 0 := ⟨_, rfl⟩
          have HY := Lib.hid hy
          rw [← hy] at HST
          generalize Ls.getD k 0 = x at *
          have HLT := Lib.hid (And.intro hlt HLL.out.1)
          clear hK hA hy
          go_wp2_with (refine wpList_index_word 8 Tryd.underlying33 rfl _ _ rfl Lr k HLT.out.1 HLT.out.2 (Eq.trans rfl HAG.out) rfl ?_; rw [← HY.out])
          go_roundw
          case rel =>
            (repeat apply Exists.intro)
            first | exact ⟨⟨k + 1, by omega, by go_num, HKq.out.setCell _ _ (.inl rfl), HST.out _ HAq.out⟩, rfl⟩ | exact ⟨⟨k + 1, by omega, by go_num, HKq.out.setCell _ _ (.inl rfl), HST.out _ HAq.out⟩⟩
          case measure => simp [intOf]; omega
        · obtain rfl : k = 8 := by omega
          have HF : Hid (WAt wr 33 w.heap.size Lm) := Lib.hid (by rw [HMM.out]; exact HAq.out)
          have HB5 : Hid (wr.heap[w.heap.size + 1]? = some (.cells Z 33 (0, 0))) := Lib.hid ((HKq.out.block _ (lt_of_block HB4.out) (by omega)).trans HB4.out)
          clear hK hA
          go_wp2_with (first | (refine wpList_load_arr Tryd.underlying33 rfl (by rw [hb8]; exact Tryd.info8) rfl _ rfl w.heap.size rfl HF.out ?_) | (refine wpList_store_arr (by rw [hb8]; exact Tryd.info8) (by rw [hb8, hZ]) (wC_one _) rfl _ _ rfl (w.heap.size + 1) rfl rfl HB5.out ?_; intro w7 h7 k7 z7; have H7 := Lib.hid h7; have K7 := Lib.hid k7; clear h7 k7 z7))
          refine bodyPost_ret (results_arr1 Tryd.results16 _ _ (w.heap.size + 1) rfl H7.out Tryd.underlying33 rfl (by rw [hb8]; exact Tryd.info8)) rfl ?_
          exact ⟨rfl, (HK4.out.trans HKq.out (fun b e => .inr (by omega))).trans K7.out (fun b e => .inr (by omega))⟩

end Go.Proofs.YtebijkpojlngpaaDoor.Sha
