/- What the reference's block does: one block. -/
import Derived.Test.YtebijkpojlngpaaDoorShaE
namespace Go.Proofs.YtebijkpojlngpaaDoor.Sha
open Go.RowKit Go.Proofs.YtebijkpojlngpaaDoor
set_option maxRecDepth 100000

theorem rot_q (w : World) (x : UInt32) (z : Int) (n : Nat) (hz : z = (n : Int)) (h0 : 0 < n) (h : n < 32) :
    ∀ nn, Calls Tryd.prog 23 #[.int .u32 (n32 x), .int .u64 z] (w.drewN nn) fun e w2 => e = .returned (.int .u32 (n32 (rr x n))) ∧ w2 = w.drewN nn := by
  intro nn
  exact (rot_any x z n hz h0 h).mono fun e w2 ⟨h1, h2⟩ => ⟨h1, h2.symm⟩

theorem ref_order (x16 x7 y15 y2 : UInt32) : x16 + x7 + y15 + y2 = y2 + x7 + y15 + x16 := by
  rw [UInt32.add_comm _ y2, UInt32.add_assoc x16 x7 y15, UInt32.add_comm x16 (x7 + y15), ← UInt32.add_assoc, UInt32.add_assoc y2 x7 y15]

theorem WAt.other {w : World} {t : TypeId} {g : Nat} {L : List UInt32} (h : WAt w t g L) (j m : Nat) (hj : j < L.length) (hne : ¬ m = j) (v : Value) : (w.setCell ⟨g, m, none⟩ v).cell? ⟨g, j, none⟩ = some (.int .u32 (n32 (L.getD j 0))) := by
  rw [cell_of_row _ _ _ _ _ _ (heap_setCell_at v h), Array.getElem?_setIfInBounds_ne hne, wC]
  simp only [List.getElem?_toArray]
  exact ucells_get L j hj

structure RndR (w1 : World) (B : Nat) (s : St) (W : List UInt32) (i : Value) (wr : World) : Prop where
  ex : ∃ (k : Nat) (r : St), k ≤ 64 ∧ i = .int .i64 (k : Int) ∧ Keep (fun x => x = B) w1 wr ∧ Hid (r = roundN s W k) ∧ WAt wr 33 B (stL r)

theorem RndR.step {w1 wr : World} {B k : Nat} {s r r' : St} {W : List UInt32} (hk : k < 64) (hK : Keep (fun x => x = B) w1 wr) (hr : r' = roundN s W (k + 1)) (hW : WAt wr 33 B (stL r)) :
    RndR w1 B s W (.int .i64 ((k : Int) + 1)) (World.set8 wr B r') :=
  ⟨k + 1, r', by omega, by rw [Int.natCast_add]; rfl, keep_set8 r' hK (.inl rfl), Lib.hid hr, hW.set8 r'⟩

theorem RndR.step8 {w1 wr : World} {B k : Nat} {s r r0 : St} {W : List UInt32} {a' e' : UInt32} (hk : k < 64) (hK : Keep (fun x => x = B) w1 wr) (hW : WAt wr 33 B (stL r0)) (hr : (⟨a', r.a, r.b, r.c, e', r.e, r.f, r.g⟩ : St) = roundN s W (k + 1)) :
    RndR w1 B s W (.int .i64 ((k : Int) + 1)) ((((((((wr.setCell ⟨B, 0, none⟩ (.int .u32 (n32 a'))).setCell ⟨B, 1, none⟩ (.int .u32 (n32 r.a))).setCell ⟨B, 2, none⟩ (.int .u32 (n32 r.b))).setCell ⟨B, 3, none⟩ (.int .u32 (n32 r.c))).setCell ⟨B, 4, none⟩ (.int .u32 (n32 e'))).setCell ⟨B, 5, none⟩ (.int .u32 (n32 r.e))).setCell ⟨B, 6, none⟩ (.int .u32 (n32 r.f))).setCell ⟨B, 7, none⟩ (.int .u32 (n32 r.g))) := by
  have h := RndR.step hk hK hr hW
  simp only [World.set8] at h
  exact h

theorem sum5 (a b c d e : UInt32) : (n32 a + n32 b + n32 c + n32 d + n32 e) % (4294967296 : Int) = n32 (a + b + c + d + e) := by
  unfold n32; rw [UInt32.toNat_add, UInt32.toNat_add, UInt32.toNat_add, UInt32.toNat_add]; omega
theorem sum4 (x a b c d : UInt32) : (n32 x + (n32 a + n32 b + n32 c + n32 d)) % (4294967296 : Int) = n32 (x + (a + b + c + d)) := by
  unfold n32; rw [UInt32.toNat_add, UInt32.toNat_add, UInt32.toNat_add, UInt32.toNat_add]; omega

theorem SprB.drew {w1 wr : World} {B : Nat} {p : List UInt8} {iv : Value} (h : SprB w1 B p iv wr) : SprB w1 B p iv wr.drew := by
  obtain ⟨k, h1, h2, h3, h4⟩ := h.ex
  exact ⟨k, h1, h2, h3.drew, h4.drew⟩

set_option maxHeartbeats 4000000 in
theorem block_any {w : World} {v : Value} {s : St} {p : List UInt8} (h : Seen w 1 v p.length (bcells p)) (hp : p.length = 64) :
    Calls Tryd.prog 19 #[.agg (wC (stL s)), v, .agg (wC shaK)] w fun e w' => e = .returned (.agg (wC (stL (mixB s p)))) ∧ Keep (fun _ => False) w w' := by
  obtain ⟨Lm, hM⟩ : ∃ Lm, Lm = stL (mixB s p) := ⟨_, rfl⟩
  have hLml : Lm.length = 8 := by rw [hM]; rfl
  have hb8 : (wC Lm).size = 8 := by rw [wC_size, hLml]
  rw [← hM]
  have HM := Lib.hid hM
  have HML := Lib.hid hLml
  clear hM hLml
  obtain ⟨Z, HZ, hZ⟩ := z8
  obtain ⟨Z64, HZ64, hZ64, HZZ⟩ := z64
  obtain ⟨KK, hKK⟩ : ∃ KK, KK = shaK := ⟨_, rfl⟩
  have hKl : KK.length = 64 := by rw [hKK]; rfl
  rw [← hKK]
  have HKK := Lib.hid hKK
  have HKL := Lib.hid hKl
  clear hKK hKl
  obtain ⟨Ls, hLs⟩ : ∃ Ls, Ls = stL s := ⟨_, rfl⟩
  have hLsl : Ls.length = 8 := by rw [hLs]; rfl
  rw [← hLs]
  have HLs := Lib.hid hLs
  have HLSL := Lib.hid hLsl
  have hs8 : (wC Ls).size = 8 := by rw [wC_size, hLsl]
  clear hLs hLsl
  have HS := Lib.hid h
  rw [hp] at h
  have HP := Lib.hid hp
  clear hp
  obtain ⟨_, ab, cap, rfl, hlc, hcm, hc⟩ := h
  unfold maxLen at hcm
  obtain ⟨gb, ob, rfl, hgb, hcb⟩ := hc.resolve_left (by omega)
  have HCB := Lib.hid hcb
  clear hc hcb
  obtain ⟨w1, hw1⟩ : ∃ w1, w1 = (((w.alloc (.cells (wC Ls) 33)).alloc (.cells (wC KK) 40)).alloc (.cells Z 33)).alloc (.cells Z64 40) := ⟨_, rfl⟩
  have K1 : Hid (Keep (fun _ => False) w w1) := Lib.hid (by rw [hw1]; exact ((((Keep.refl _ w).alloc _).alloc _).alloc _).alloc _)
  have A1 : Hid (WAt w1 33 w.heap.size Ls) := Lib.hid (by rw [hw1]; exact (((WAt.new w _ _).alloc _).alloc _).alloc _)
  have C1 : Hid (WAt w1 40 (w.heap.size + 1) KK) := Lib.hid (by
    have h9 := WAt.new (w.alloc (.cells (wC Ls) 33)) 40 KK
    rw [World.size_alloc] at h9
    rw [hw1]; exact (h9.alloc _).alloc _)
  have B1 : Hid (w1.heap[w.heap.size + 1 + 1]? = some (.cells Z 33 (0, 0))) := Lib.hid (by
    have h9 := heap_alloc_new ((w.alloc (.cells (wC Ls) 33)).alloc (.cells (wC KK) 40)) (.cells Z 33)
    rw [World.size_alloc, World.size_alloc] at h9
    rw [hw1]
    exact (((Keep.refl (fun _ => False) _).alloc (.cells Z64 40)).block _ (lt_of_block h9) (fun h => h)).trans h9)
  have D1 : Hid (WAt w1 40 (w.heap.size + 1 + 1 + 1) (part 64 [])) := Lib.hid (by
    have h9 := heap_alloc_new (((w.alloc (.cells (wC Ls) 33)).alloc (.cells (wC KK) 40)).alloc (.cells Z 33)) (.cells Z64 40)
    rw [World.size_alloc, World.size_alloc, World.size_alloc, HZZ.out] at h9
    rw [hw1, HZZ.out]; exact h9)
  have hz1 : w1.heap.size = w.heap.size + 4 := by rw [hw1]; simp
  go_enter Tryd.func19, Tryd.ntmps19
  go_wp2_with (first | (refine wpList_box_arr rfl _ rfl rfl ?_) | (refine wpList_alloc_arr HZ rfl rfl ?_) | (refine wpList_alloc_arr HZ64 rfl rfl ?_))
  rw [← hw1]
  clear hw1
  go_loopw [8] (fun iv wr => SprA w1 (w.heap.size + 1 + 1 + 1) p iv wr) (fun iv _ => 16 - (intOf iv).toNat)
  case atStart => exact ⟨0, by omega, rfl, Keep.refl _ w1, D1.out⟩
  case round =>
    obtain ⟨k, hk, rfl, hK, hW⟩ := hrel.ex
    clear hrel
    have HW := Lib.hid hW
    have HK := Lib.hid hK
    clear hW hK
    by_cases hlt : k < 16
    · have hln : (part 64 (words0 p k)).length = 64 := part_length _ _ (by rw [words0_length]; omega)
      have q0 := HW.out.cell k (by omega)
      have q1 := HW.out.free k
      have cb := fun (j : Nat) (hj : j < 64) => (HK.out.cell (F := fun b => b = w.heap.size + 1 + 1 + 1) (b := gb) (by omega) (by omega) (ob + j)).trans ((K1.out.cell hgb (fun h => h) (ob + j)).trans (HCB.out j (.int .u8 (n32 (n8 (p.getD j 0)))) (by have := HP.out; rw [n32_n8]; simp [bcells, List.getElem?_eq_getElem (show j < p.length by omega), List.getD_eq_getElem?_getD])))
      obtain ⟨q, hq⟩ : ∃ q : Nat, q = 4 * k := ⟨_, rfl⟩
      have e0 : 4 * (k : Int) = (q : Int) := by omega
      have c0 := cb q (by omega)
      have c1 := cb (q + 1) (by omega)
      have c2 := cb (q + 2) (by omega)
      have c3 := cb (q + 3) (by omega)
      have HX : Hid (be32 p k = by32 (p.getD q 0) (p.getD (q + 1) 0) (p.getD (q + 2) 0) (p.getD (q + 3) 0)) := Lib.hid (by rw [be32, hq])
      generalize p.getD q 0 = x0 at *
      generalize p.getD (q + 1) 0 = x1 at *
      generalize p.getD (q + 2) 0 = x2 at *
      generalize p.getD (q + 3) 0 = x3 at *
      have HQ := Lib.hid hq
      have hq60 : (q : Int) ≤ 60 := by omega
      clear cb hq hln
      go_wp2
      go_region
      all_goals go_wp2
      go_roundw
      case rel =>
        (repeat apply Exists.intro)
        rw [by32_word, ← HX.out]
        first | exact SprA.step hlt HK.out HW.out | exact SprA.step hlt HK.out.drew HW.out.drew | exact ⟨SprA.step hlt HK.out HW.out, rfl⟩
      case measure => simp [intOf]; omega
    · obtain rfl : k = 16 := by omega
      go_wp2
      go_loopw [9] (fun iv wr => SprB w1 (w.heap.size + 1 + 1 + 1) p iv wr) (fun iv _ => 64 - (intOf iv).toNat)
      case atStart => exact ⟨0, by omega, rfl, HK.out, HW.out⟩
      case round =>
        obtain ⟨k, hk, rfl, hK, hW⟩ := hrel.ex
        clear hrel
        have HW := Lib.hid hW
        have HK := Lib.hid hK
        clear hW hK
        have hln : (spreadN p k).length = k + 16 := spreadN_length p k
        obtain ⟨m, hm⟩ : ∃ m, m = k + 16 := ⟨_, rfl⟩
        rw [← hm] at hln ⊢
        by_cases hlt : m < 64
        · have hlp : (part 64 (spreadN p k)).length = 64 := part_length _ _ (by omega)
          have q0 := HW.out.cell m (by omega)
          have q1 := HW.out.free m
          have cb := fun (j : Nat) (hj : j < m) => (part_get 64 (spreadN p k) j (by omega)) ▸ HW.out.cell j (by omega)
          obtain ⟨a2, h2⟩ : ∃ a2, a2 = m - 2 := ⟨_, rfl⟩
          obtain ⟨a7, h7⟩ : ∃ a7, a7 = m - 7 := ⟨_, rfl⟩
          obtain ⟨a15, h15⟩ : ∃ a15, a15 = m - 15 := ⟨_, rfl⟩
          obtain ⟨a16, h16⟩ : ∃ a16, a16 = m - 16 := ⟨_, rfl⟩
          have e2 : (m : Int) - 2 = (a2 : Int) := by omega
          have e7 : (m : Int) - 7 = (a7 : Int) := by omega
          have e15 : (m : Int) - 15 = (a15 : Int) := by omega
          have e16 : (m : Int) - 16 = (a16 : Int) := by omega
          have b2 : (a2 : Int) < 64 := by omega
          have b7 : (a7 : Int) < 64 := by omega
          have b15 : (a15 : Int) < 64 := by omega
          have b16 : (a16 : Int) < 64 := by omega
          have g16 : (16 : Int) ≤ (m : Int) := by omega
          have g7 : (7 : Int) ≤ (m : Int) := by omega
          have g64 : (m : Int) < 64 := by omega
          have v16 : IntKind.i64.wrap ((m : Int) - 16) = (a16 : Int) := by simp [IntKind.wrap, IntKind.bits, IntKind.signed]; omega
          have v7 : IntKind.i64.wrap ((m : Int) - 7) = (a7 : Int) := by simp [IntKind.wrap, IntKind.bits, IntKind.signed]; omega
          have u16 := i64_nat a16 (by omega)
          have u7 := i64_nat a7 (by omega)
          have n7 : ¬ a7 = m := by omega
          have n7' : ¬ m = a7 := by omega
          have n16 : ¬ a16 = m := by omega
          have n16' : ¬ m = a16 := by omega
          have z7 : (0 : Int) ≤ (a7 : Int) := by omega
          have z16 : (0 : Int) ≤ (a16 : Int) := by omega
          have k7 := (part_get 64 (spreadN p k) a7 (by omega)) ▸ HW.out.other a7 m (by omega) n7'
          have k16 := (part_get 64 (spreadN p k) a16 (by omega)) ▸ HW.out.other a16 m (by omega) n16'
          have c2 := cb a2 (by omega)
          have c7 := cb a7 (by omega)
          have c15 := cb a15 (by omega)
          have c16 := cb a16 (by omega)
          have HX : Hid (nextW (spreadN p k) = s1 ((spreadN p k).getD a2 0) + (spreadN p k).getD a7 0 + s0 ((spreadN p k).getD a15 0) + (spreadN p k).getD a16 0) := Lib.hid (by rw [nextW, hln, h2, h7, h15, h16])
          generalize (spreadN p k).getD a2 0 = x2 at *
          generalize (spreadN p k).getD a7 0 = x7 at *
          generalize (spreadN p k).getD a15 0 = x15 at *
          generalize (spreadN p k).getD a16 0 = x16 at *
          have HM2 := Lib.hid hm
          have HL := Lib.hid hln
          clear cb hln hlp hm h2 h7 h15 h16
          have hx := n32_xor
          have ha := n32_add
          have ha' := n32_wadd
          have r1 : n32 x2 / (1024 : Int) = n32 (x2 >>> 10) := n32_shr x2 10 (by omega)
          have r2 : n32 x15 / (8 : Int) = n32 (x15 >>> 3) := n32_shr x15 3 (by omega)
          go_wp2
          go_region
          all_goals go_wp2_with fail
          go_region_held3 (fun w' => w'.cell? ⟨w.heap.size + 1 + 1 + 1, a7, none⟩ = some (.int .u32 (n32 x7)) ∧ w'.cell? ⟨w.heap.size + 1 + 1 + 1, a16, none⟩ = some (.int .u32 (n32 x16))) (go_keep) (first | (go_at_call 23; (with_reducible refine (rot_any _ 7 7 (by decide) (by omega) (by omega)).mono ?_); rintro e w5 ⟨rfl, rfl⟩) | (go_at_call 23; (with_reducible refine (rot_any _ 18 18 (by decide) (by omega) (by omega)).mono ?_); rintro e w5 ⟨rfl, rfl⟩) | (go_at_call 23; (with_reducible refine (rot_any _ 17 17 (by decide) (by omega) (by omega)).mono ?_); rintro e w5 ⟨rfl, rfl⟩) | (go_at_call 23; (with_reducible refine (rot_any _ 19 19 (by decide) (by omega) (by omega)).mono ?_); rintro e w5 ⟨rfl, rfl⟩))
          go_wp2
          go_roundw
          case rel =>
            (repeat apply Exists.intro)
            rw [ref_order]
            have HSP := SprB.step (by have := HM2.out; omega) HM2.out HX.out HK.out HW.out
            first | exact HSP.drew | exact HSP | exact ⟨HSP.drew, rfl⟩ | exact ⟨HSP, rfl⟩
          case measure => simp [intOf]; omega
        · obtain rfl : k = 48 := by omega
          obtain rfl : m = 64 := by omega
          obtain ⟨W, hW⟩ : ∃ W, W = sched p := ⟨_, rfl⟩
          have hWl : W.length = 64 := by rw [hW]; exact sched_length p
          have hfull : part 64 (spreadN p 48) = W := by rw [hW]; exact part_full 64 _ (by rw [spreadN_length])
          have HWW := Lib.hid hW
          have HWL := Lib.hid hWl
          have D3 : Hid (WAt wr 40 (w.heap.size + 1 + 1 + 1) W) := Lib.hid (by rw [← hfull]; exact HW.out)
          have A3 := Lib.hid (A1.out.keep HK.out (by omega))
          have C3 := Lib.hid (C1.out.keep HK.out (by omega))
          have B3 : Hid (wr.heap[w.heap.size + 1 + 1]? = some (.cells Z 33 (0, 0))) := Lib.hid ((HK.out.block _ (lt_of_block B1.out) (by omega)).trans B1.out)
          have K3 := Lib.hid (K1.out.trans HK.out (fun b e => .inr (by omega)))
          have hzr := HK.out.size
          clear hfull hW hWl hln
          have D4 := Lib.hid (D3.out.alloc (.cells (wC Ls) 33))
          have A4 := Lib.hid (A3.out.alloc (.cells (wC Ls) 33))
          have C4 := Lib.hid (C3.out.alloc (.cells (wC Ls) 33))
          have B4 := Lib.hid ((((Keep.refl (fun _ => False) wr).alloc (.cells (wC Ls) 33)).block _ (lt_of_block B3.out) (fun h => h)).trans B3.out)
          have K4 := Lib.hid (K3.out.alloc (.cells (wC Ls) 33))
          have V4 : Hid (WAt (wr.alloc (.cells (wC Ls) 33)) 33 wr.heap.size (stL s)) := Lib.hid (by rw [← HLs.out]; exact WAt.new _ _ _)
          go_wp2_with (first | (refine wpList_load_arr Tryd.underlying33 rfl (by rw [hs8]; exact Tryd.info8) rfl _ rfl w.heap.size rfl A3.out ?_) | (refine wpList_var_arr HZ (by rw [hs8]; exact Tryd.info8) (by rw [hs8, hZ]) (wC_one _) rfl rfl rfl _ _ rfl rfl rfl ?_))
          generalize wr.alloc (.cells (wC Ls) 33) = w4 at *
          obtain ⟨Bv, hBv⟩ : ∃ Bv, Bv = wr.heap.size := ⟨_, rfl⟩
          rw [← hBv] at V4 hzr ⊢
          have HBV : Hid (w.heap.size + 1 + 1 + 1 < Bv) := Lib.hid (by omega)
          clear hBv
          go_loopw [13] (fun i wr => RndR w4 Bv s W i wr) (fun i _ => 64 - (intOf i).toNat)
          case atStart => exact ⟨0, s, by omega, rfl, Keep.refl _ w4, Lib.hid rfl, V4.out⟩
          case round =>
            obtain ⟨k, r, hk, rfl, hK, HRN, hV⟩ := hrel.ex
            clear hrel
            have HKv := Lib.hid hK
            have HV := Lib.hid hV
            clear hK hV
            by_cases hlt : k < 64
            · obtain ⟨c0, c1, c2, c3, c4, c5, c6, c7, f0, f1, f2, f3, f4, f5, f6, f7⟩ := HV.out.st8
              have hck := fun (w9 : World) (k9 : Keep (fun x => x = Bv) w4 w9) => (C4.out.keep k9 (by have := HBV.out; omega)).cell k (by rw [HKL.out]; omega)
              have hcw := fun (w9 : World) (k9 : Keep (fun x => x = Bv) w4 w9) => (D4.out.keep k9 (by have := HBV.out; omega)).cell k (by rw [HWL.out]; omega)
              have ck := hck _ HKv.out
              have cw := hcw _ HKv.out
              have HKD : Hid (round r (KK.getD k 0) (W.getD k 0) = roundN s W (k + 1)) := Lib.hid (by rw [roundN, HRN.out, HKK.out])
              generalize KK.getD k 0 = kk at *
              generalize W.getD k 0 = ww at *
              have HCK := Lib.hid hck
              have HCW := Lib.hid hcw
              clear hck hcw
              have hx := n32_xor
              have ha := n32_add
              have ha' := n32_wadd
              have hd := n32_and
              have hn := n32_not
              go_wp2
              go_quiet (fail)
              clear c0 c1 c2 c3 c4 c5 c6 c7 f0 f1 f2 f3 f4 f5 f6 f7 ck cw
              have HV5 := Lib.hid (HV.out.drewN nq)
              have HK5 := Lib.hid (HKv.out.drewN nq)
              generalize wr.drewN nq = w5 at *
              have ck := HCK.out _ HK5.out
              have cw := HCW.out _ HK5.out
              obtain ⟨c0, c1, c2, c3, c4, c5, c6, c7, -⟩ := HV5.out.st8
              go_wp2
              go_quiet (first | (go_at_call 23; refine Calls.quiet_of_same (rot_q _ _ _ 6 (by decide) (by decide) (by decide) _)) | (go_at_call 23; refine Calls.quiet_of_same (rot_q _ _ _ 11 (by decide) (by decide) (by decide) _)) | (go_at_call 23; refine Calls.quiet_of_same (rot_q _ _ _ 25 (by decide) (by decide) (by decide) _)))
              clear c0 c1 c2 c3 c4 c5 c6 c7 ck cw
              have HV6 := Lib.hid (HV5.out.drewN nq)
              have HK6 := Lib.hid (HK5.out.drewN nq)
              generalize w5.drewN nq = w6 at *
              obtain ⟨c0, c1, c2, c3, c4, c5, c6, c7, -⟩ := HV6.out.st8
              go_wp2
              go_quiet (first | (go_at_call 23; refine Calls.quiet_of_same (rot_q _ _ _ 2 (by decide) (by decide) (by decide) _)) | (go_at_call 23; refine Calls.quiet_of_same (rot_q _ _ _ 13 (by decide) (by decide) (by decide) _)) | (go_at_call 23; refine Calls.quiet_of_same (rot_q _ _ _ 22 (by decide) (by decide) (by decide) _)))
              clear c0 c1 c2 c3 c4 c5 c6 c7
              have HV7 := Lib.hid (HV6.out.drewN nq)
              have HK7 := Lib.hid (HK6.out.drewN nq)
              generalize w6.drewN nq = w7 at *
              obtain ⟨c0, c1, c2, c3, c4, c5, c6, c7, f0, f1, f2, f3, f4, f5, f6, f7⟩ := HV7.out.st8
              go_wp2
              go_roundw
              case rel =>
                (repeat apply Exists.intro)
                rw [sum5, sum4]
                refine RndR.step8 hlt HK7.out HV7.out ?_
                rw [← HKD.out]
                simp only [round, tOne, tTwo, t3, ch, mj]
              case measure => simp [intOf]; omega
            · obtain rfl : k = 64 := by omega
              have A5 := Lib.hid (A4.out.keep HKv.out (by have := HBV.out; omega))
              have B5 : Hid (wr.heap[w.heap.size + 1 + 1]? = some (.cells Z 33 (0, 0))) := Lib.hid ((HKv.out.block _ (lt_of_block B4.out) (by have := HBV.out; omega)).trans B4.out)
              have K5 := Lib.hid (K4.out.trans HKv.out (fun b e => .inr (by have := HBV.out; omega)))
              obtain ⟨Lr, hLr⟩ : ∃ Lr, Lr = stL r := ⟨_, rfl⟩
              have hLl : Lr.length = 8 := by rw [hLr]; rfl
              have HLr := Lib.hid hLr
              have HLL := Lib.hid hLl
              have HMM : Hid (Lm = addTo Ls Lr 8) := Lib.hid (by rw [HLs.out, hLr, addTo_full, HM.out, mixB, HRN.out, HWW.out])
              have V5 : Hid (WAt wr 33 Bv Lr) := Lib.hid (by rw [hLr]; exact HV.out)
              clear hLr hLl
              go_wp2
              go_loopw [18] (fun i wq => MixS' wr w.heap.size Ls Lr i wq) (fun i _ => 8 - (intOf i).toNat)
              case atStart => exact ⟨0, by omega, rfl, Keep.refl _ wr, by simpa [addTo] using A5.out⟩
              case round =>
                obtain ⟨k, hk, rfl, hK, hA⟩ := hrel.ex
                clear hrel
                have HKq := Lib.hid hK
                have HAq := Lib.hid hA
                by_cases hlt : k < 8
                · have c0 := hA.cell k (by rw [addTo_length _ _ _ (by rw [HLL.out, HLSL.out]) (by rw [HLSL.out]; omega), HLSL.out]; omega)
                  rw [addTo_get _ _ _ (by rw [HLL.out, HLSL.out]) (by rw [HLSL.out]; omega)] at c0
                  have c1 := hA.free k
                  have c2 := (V5.out.keep hK (by have := HBV.out; omega)).cell k (by rw [HLL.out]; omega)
                  have ha := n32_add
                  have ha' := n32_wadd
                  have HST : Hid (∀ (w9 : World), WAt w9 33 w.heap.size (addTo Ls Lr k) → WAt (w9.setCell ⟨w.heap.size, k, none⟩ (.int .u32 (n32 (Ls.getD k 0 + Lr.getD k 0)))) 33 w.heap.size (addTo Ls Lr (k + 1))) := Lib.hid (fun w9 h9 => by
                    have := h9.set k (Ls.getD k 0 + Lr.getD k 0)
                    rwa [addTo_set _ _ _ (by rw [HLL.out, HLSL.out]) (by rw [HLSL.out]; omega)] at this)
                  generalize Lr.getD k 0 = y at *
                  generalize Ls.getD k 0 = x at *
                  clear hK hA
                  go_wp2
                  go_region
                  all_goals go_wp2
                  go_roundw
                  case rel =>
                    (repeat apply Exists.intro)
                    first | exact ⟨k + 1, by omega, by go_num, (HKq.out.setCell _ _ (.inl rfl)).drew, HST.out _ HAq.out⟩ | exact ⟨⟨k + 1, by omega, by go_num, (HKq.out.setCell _ _ (.inl rfl)).drew, HST.out _ HAq.out⟩⟩ | exact ⟨⟨k + 1, by omega, by go_num, (HKq.out.setCell _ _ (.inl rfl)).drew, HST.out _ HAq.out⟩, rfl⟩
                  case measure => simp [intOf]; omega
                · obtain rfl : k = 8 := by omega
                  have HF : Hid (WAt wr 33 w.heap.size Lm) := Lib.hid (by rw [HMM.out]; exact HAq.out)
                  have HB5 : Hid (wr.heap[w.heap.size + 1 + 1]? = some (.cells Z 33 (0, 0))) := Lib.hid ((HKq.out.block _ (lt_of_block B5.out) (by omega)).trans B5.out)
                  clear hK hA
                  go_wp2_with (first | (refine wpList_load_arr Tryd.underlying33 rfl (by rw [hb8]; exact Tryd.info8) rfl _ rfl w.heap.size rfl HF.out ?_) | (refine wpList_store_arr (by rw [hb8]; exact Tryd.info8) (by rw [hb8, hZ]) (wC_one _) rfl _ _ rfl (w.heap.size + 1 + 1) rfl rfl HB5.out ?_; intro w7 h7 k7 z7; have H7 := Lib.hid h7; have K7 := Lib.hid k7; clear h7 k7 z7))
                  refine bodyPost_ret (results_arr1 Tryd.results19 _ _ (w.heap.size + 1 + 1) rfl H7.out Tryd.underlying33 rfl (by rw [hb8]; exact Tryd.info8)) rfl ?_
                  exact ⟨rfl, (K5.out.trans HKq.out (fun b e => .inr (by omega))).trans K7.out (fun b e => .inr (by omega))⟩

end Go.Proofs.YtebijkpojlngpaaDoor.Sha
