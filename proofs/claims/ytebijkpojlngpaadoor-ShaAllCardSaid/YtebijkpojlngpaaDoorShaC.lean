/- What sha.spread does: a block's sixteen words, one for each round. -/
import Derived.Test.YtebijkpojlngpaaDoorShaB
namespace Go.Proofs.YtebijkpojlngpaaDoor.Sha
open Go.RowKit Go.Proofs.YtebijkpojlngpaaDoor
set_option maxRecDepth 100000

/-- A byte as a word. -/
def n8 (c : UInt8) : UInt32 := c.toUInt32
theorem by32_word (a b c d : UInt8) : bits .or .u32 (bits .or .u32 (bits .or .u32 (n32 (n8 a) % 4294967296 * 16777216 % 4294967296) (n32 (n8 b) % 4294967296 * 65536 % 4294967296)) (n32 (n8 c) % 4294967296 * 256 % 4294967296)) (n32 (n8 d) % 4294967296) = n32 (by32 a b c d) := by
  have m : ∀ x : UInt8, n32 (n8 x) % 4294967296 = n32 (n8 x) := fun x => Int.emod_eq_of_lt (n32_ge _) (n32_lt _)
  have o1 : n32 (n8 a) * (16777216 : Int) % (4294967296 : Int) = n32 (n8 a <<< 24) := n32_shl (n8 a) 24 (by omega)
  have o2 : n32 (n8 b) * (65536 : Int) % (4294967296 : Int) = n32 (n8 b <<< 16) := n32_shl (n8 b) 16 (by omega)
  have o3 : n32 (n8 c) * (256 : Int) % (4294967296 : Int) = n32 (n8 c <<< 8) := n32_shl (n8 c) 8 (by omega)
  rw [m, m, m, m, o1, o2, o3, n32_or, n32_or, n32_or]; rfl

theorem n32_n8 (c : UInt8) : n32 (n8 c) = (c.toNat : Int) := by unfold n32 n8; rw [UInt8.toNat_toUInt32]

structure SprA (w1 : World) (B : Nat) (p : List UInt8) (iv : Value) (wr : World) : Prop where
  ex : ∃ k : Nat, k ≤ 16 ∧ iv = .int .i64 (k : Int) ∧ Keep (fun b => b = B) w1 wr ∧ WAt wr 40 B (part 64 (words0 p k))

/-- A step of the first sixteen. -/
theorem SprA.step {w1 wr : World} {B : Nat} {p : List UInt8} {k : Nat} (hk : k < 16) (hK : Keep (fun b => b = B) w1 wr) (hW : WAt wr 40 B (part 64 (words0 p k))) :
    SprA w1 B p (.int .i64 ((k : Int) + 1)) (wr.setCell ⟨B, k, none⟩ (.int .u32 (n32 (be32 p k)))).drew := by
  refine ⟨k + 1, by omega, by rw [Int.natCast_add]; rfl, (hK.setCell _ _ (.inl rfl)).drew, ?_⟩
  have h := hW.set k (be32 p k)
  have e := part_set 64 (words0 p k) (be32 p k) (by rw [words0_length]; omega)
  rw [words0_length] at e
  rw [e] at h
  exact h

structure SprB (w1 : World) (B : Nat) (p : List UInt8) (iv : Value) (wr : World) : Prop where
  ex : ∃ k : Nat, k ≤ 48 ∧ iv = .int .i64 ((k + 16 : Nat) : Int) ∧ Keep (fun b => b = B) w1 wr ∧ WAt wr 40 B (part 64 (spreadN p k))

/-- A step of those behind them. -/
theorem SprB.step {w1 wr : World} {B : Nat} {p : List UInt8} {k m : Nat} {x2 x7 x15 x16 : UInt32} (hk : k < 48) (hm : m = k + 16) (hX : nextW (spreadN p k) = s1 x2 + x7 + s0 x15 + x16) (hK : Keep (fun b => b = B) w1 wr) (hW : WAt wr 40 B (part 64 (spreadN p k))) :
    SprB w1 B p (.int .i64 ((m : Int) + 1)) (wr.setCell ⟨B, m, none⟩ (.int .u32 (n32 ((rr x2 17 ^^^ rr x2 19 ^^^ x2 >>> 10) + x7 + (rr x15 7 ^^^ rr x15 18 ^^^ x15 >>> 3) + x16)))).drew := by
  subst hm
  refine ⟨k + 1, by omega, by congr 1, (hK.setCell _ _ (.inl rfl)).drew, ?_⟩
  have h := hW.set (k + 16) (nextW (spreadN p k))
  have e := part_set 64 (spreadN p k) (nextW (spreadN p k)) (by rw [spreadN_length]; omega)
  rw [spreadN_length] at e
  rw [e] at h
  rw [hX] at h
  rw [spreadN, hX]
  exact h

set_option maxHeartbeats 2000000 in
theorem spread_any {w : World} {v : Value} {p : List UInt8} (h : Seen w 1 v p.length (bcells p)) (hp : p.length = 64) :
    Calls Tryd.prog 20 #[v] w fun e w' => e = .returned (.agg (wC (sched p))) ∧ Keep (fun _ => False) w w' := by
  obtain ⟨Z, HZ, hZ, HZZ⟩ := z64
  have HS := Lib.hid h
  rw [hp] at h
  obtain ⟨_, ab, cap, rfl, hlc, hcm, hc⟩ := h
  unfold maxLen at hcm
  obtain ⟨gb, ob, rfl, hgb, hcb⟩ := hc.resolve_left (by omega)
  have HCB := Lib.hid hcb
  clear hc hcb
  have H2 : Hid (WAt ((w.alloc (.cells Z 40)).alloc (.cells Z 40)) 40 (w.heap.size + 1) (part 64 [])) := Lib.hid (by
    have := heap_alloc_new (w.alloc (.cells Z 40)) (.cells Z 40)
    rw [HZZ.out] at this ⊢
    unfold WAt
    rwa [World.size_alloc] at this)
  have H1 : Hid (((w.alloc (.cells Z 40)).alloc (.cells Z 40)).heap[w.heap.size]? = some (.cells Z 40 (0, 0))) := Lib.hid (heap_alloc2_old w _ _)
  have H0 : Hid (Keep (fun _ => False) w ((w.alloc (.cells Z 40)).alloc (.cells Z 40))) := Lib.hid (((Keep.refl _ w).alloc _).alloc _)
  go_enter Tryd.func20, Tryd.ntmps20
  go_wp2_with (first | (refine wpList_alloc_arr HZ rfl rfl ?_))
  generalize (w.alloc (.cells Z 40)).alloc (.cells Z 40) = w1 at *
  go_loopw [10] (fun iv wr => SprA w1 (w.heap.size + 1) p iv wr) (fun iv _ => 16 - (intOf iv).toNat)
  case atStart => exact ⟨0, by omega, rfl, Keep.refl _ w1, H2.out⟩
  case round =>
    obtain ⟨k, hk, rfl, hK, hW⟩ := hrel.ex
    clear hrel
    have HW := Lib.hid hW
    have HK := Lib.hid hK
    clear hW hK
    by_cases hlt : k < 16
    · have hln : (part 64 (words0 p k)).length = 64 := part_length _ _ (by rw [words0_length]; omega)
      have q0 := HW.out.cell k (by omega)
      have q1 := HW.out.free k
      have cb := fun (j : Nat) (hj : j < 64) => (HK.out.cell (F := fun b => b = w.heap.size + 1) (b := gb) (by have := H0.out.size; omega) (by omega) (ob + j)).trans ((H0.out.cell hgb (fun h => h) (ob + j)).trans (HCB.out j (.int .u8 (n32 (n8 (p.getD j 0)))) (by rw [n32_n8]; simp [bcells, List.getElem?_eq_getElem (show j < p.length by omega), List.getD_eq_getElem?_getD])))
      obtain ⟨q, hq⟩ : ∃ q : Nat, q = 4 * k := ⟨_, rfl⟩
      have e0 : 4 * (k : Int) = (q : Int) := by omega
      have c0 := cb q (by omega)
      have c1 := cb (q + 1) (by omega)
      have c2 := cb (q + 2) (by omega)
      have c3 := cb (q + 3) (by omega)
      have HX : Hid (be32 p k = by32 (p.getD q 0) (p.getD (q + 1) 0) (p.getD (q + 2) 0) (p.getD (q + 3) 0)) := Lib.hid (by rw [be32, hq])
      generalize p.getD q 0 = x0 at *
      generalize p.getD (q + 1) 0 = x1 at *
      generalize p.getD (q + 2) 0 = x2 at *
      generalize p.getD (q + 3) 0 = x3 at *
      have HQ := Lib.hid hq
      have hq60 : (q : Int) ≤ 60 := by omega
      clear cb hq
      go_wp2
      go_region
      all_goals go_wp2
      rw [by32_word, ← HX.out]
      exact ⟨SprA.step hlt HK.out HW.out, by simp [intOf]; omega⟩
    · obtain rfl : k = 16 := by omega
      have H0' := Lib.hid HK.out
      go_wp2
      go_loopw [5] (fun iv wr => SprB w1 (w.heap.size + 1) p iv wr) (fun iv _ => 64 - (intOf iv).toNat)
      case atStart => exact ⟨0, by omega, rfl, HK.out, HW.out⟩
      case round =>
        obtain ⟨k, hk, rfl, hK, hW⟩ := hrel.ex
        clear hrel
        have HW := Lib.hid hW
        have HK := Lib.hid hK
        clear hW hK
        have hln : (spreadN p k).length = k + 16 := spreadN_length p k
        obtain ⟨m, hm⟩ : ∃ m, m = k + 16 := ⟨_, rfl⟩
        rw [← hm] at hln ⊢
        by_cases hlt : m < 64
        · have hlp : (part 64 (spreadN p k)).length = 64 := part_length _ _ (by omega)
          have q0 := HW.out.cell m (by omega)
          have q1 := HW.out.free m
          have cb := fun (j : Nat) (hj : j < m) => (part_get 64 (spreadN p k) j (by omega)) ▸ HW.out.cell j (by omega)
          obtain ⟨a2, h2⟩ : ∃ a2, a2 = m - 2 := ⟨_, rfl⟩
          obtain ⟨a7, h7⟩ : ∃ a7, a7 = m - 7 := ⟨_, rfl⟩
          obtain ⟨a15, h15⟩ : ∃ a15, a15 = m - 15 := ⟨_, rfl⟩
          obtain ⟨a16, h16⟩ : ∃ a16, a16 = m - 16 := ⟨_, rfl⟩
          have e2 : (m : Int) - 2 = (a2 : Int) := by omega
          have e7 : (m : Int) - 7 = (a7 : Int) := by omega
          have e15 : (m : Int) - 15 = (a15 : Int) := by omega
          have e16 : (m : Int) - 16 = (a16 : Int) := by omega
          have b2 : (a2 : Int) < 64 := by omega
          have b7 : (a7 : Int) < 64 := by omega
          have b15 : (a15 : Int) < 64 := by omega
          have b16 : (a16 : Int) < 64 := by omega
          have c2 := cb a2 (by omega)
          have c7 := cb a7 (by omega)
          have c15 := cb a15 (by omega)
          have c16 := cb a16 (by omega)
          have HX : Hid (nextW (spreadN p k) = s1 ((spreadN p k).getD a2 0) + (spreadN p k).getD a7 0 + s0 ((spreadN p k).getD a15 0) + (spreadN p k).getD a16 0) := Lib.hid (by rw [nextW, hln, h2, h7, h15, h16])
          generalize (spreadN p k).getD a2 0 = x2 at *
          generalize (spreadN p k).getD a7 0 = x7 at *
          generalize (spreadN p k).getD a15 0 = x15 at *
          generalize (spreadN p k).getD a16 0 = x16 at *
          have HM := Lib.hid hm
          have HL := Lib.hid hln
          clear cb hln hlp hm h2 h7 h15 h16
          have hx := n32_xor
          have ha := n32_add
          have r1 : n32 x2 / (1024 : Int) = n32 (x2 >>> 10) := n32_shr x2 10 (by omega)
          have r2 : n32 x15 / (8 : Int) = n32 (x15 >>> 3) := n32_shr x15 3 (by omega)
          go_wp2
          go_region
          go_wp2_with fail
          with_reducible refine (rotl_any _ _ 17 (by decide) (by omega) (by omega)).mono ?_
          rintro e w5 ⟨rfl, rfl⟩
          go_wp2_with fail
          with_reducible refine (rotl_any _ _ 19 (by decide) (by omega) (by omega)).mono ?_
          rintro e w5 ⟨rfl, rfl⟩
          go_wp2_with fail
          with_reducible refine (rotl_any _ _ 7 (by decide) (by omega) (by omega)).mono ?_
          rintro e w5 ⟨rfl, rfl⟩
          go_wp2_with fail
          with_reducible refine (rotl_any _ _ 18 (by decide) (by omega) (by omega)).mono ?_
          rintro e w5 ⟨rfl, rfl⟩
          go_wp2
          go_region
          go_wp2
          go_roundw
          case rel =>
            (repeat apply Exists.intro)
            first | exact SprB.step (by have := HM.out; omega) HM.out HX.out HK.out HW.out | exact SprB.step (by have := HM.out; omega) HM.out HX.out HK.out.drew HW.out.drew | exact ⟨SprB.step (by have := HM.out; omega) HM.out HX.out HK.out.drew HW.out.drew, rfl⟩
          case measure => simp [intOf]; omega
        · obtain rfl : k = 48 := by omega
          obtain rfl : m = 64 := by omega
          have hfull : part 64 (spreadN p 48) = sched p := part_full 64 _ (by rw [spreadN_length])
          have HWF : Hid (WAt wr 40 (w.heap.size + 1) (sched p)) := Lib.hid (by rw [← hfull]; exact HW.out)
          have H1F : Hid (wr.heap[w.heap.size]? = some (.cells Z 40 (0, 0))) := Lib.hid ((HK.out.block _ (lt_of_block H1.out) (by omega)).trans H1.out)
          have hsz : (wC (sched p)).size = 64 := by rw [wC_size, sched_length]
          clear hfull hln
          go_wp2_with (first | (refine wpList_load_arr Tryd.underlying40 rfl (by rw [hsz]; exact Tryd.info64) rfl _ rfl (w.heap.size + 1) rfl HWF.out ?_) | (refine wpList_store_arr (by rw [hsz]; exact Tryd.info64) (by rw [hsz, hZ]) (wC_one _) rfl _ _ rfl w.heap.size rfl rfl H1F.out ?_; intro w5 h5 k5 z5; have H5 := Lib.hid h5; have K5 := Lib.hid k5; clear h5 k5 z5))
          refine bodyPost_ret (results_arr1 Tryd.results20 _ _ w.heap.size rfl H5.out Tryd.underlying40 rfl (by rw [hsz]; exact Tryd.info64)) rfl ?_
          exact ⟨rfl, (H0.out.trans HK.out (fun b e => .inr (by omega))).trans K5.out (fun b e => .inr (by omega))⟩

end Go.Proofs.YtebijkpojlngpaaDoor.Sha
