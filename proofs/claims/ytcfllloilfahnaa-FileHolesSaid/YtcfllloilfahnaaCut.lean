/- Files on blocks: cut. -/
import Derived.Test.YtcfllloilfahnaaFull5
import Derived.Lib.SliceRun
namespace Go.Proofs.Ytcfllloilfahnaa.Ino
open Go.RowKit Go.Maps Go.Proofs.Ytcfllloilfahnaa
set_option maxRecDepth 100000

/-- The table without the parts from the q-th on. -/
def clrT (T : List Nat) (q : Nat) : List Nat := T.take q ++ List.replicate (200 - q) 0 ++ T.drop 200

/-- An indirect block that names nothing goes. -/
def cutStep (T : List Nat) (k : Nat) : List Nat := if usedB T k = true then T else T.set k 0

def cutTo (T : List Nat) : Nat → List Nat
  | 0 => T
  | k + 1 => cutStep (cutTo T k) (200 + k)

def cutT (T : List Nat) (n : Nat) : List Nat := cutTo (clrT T ((n + 511) / 512)) 3

theorem slTab (g q : Nat) (hq : q ≤ 200) (w : World) : (Instr.sliceAt 58 (.pointer (some ⟨g, 0, none⟩)) (some (.int .i64 (q : Int))) (some (.int .i64 200)) none).run Try.prog w = .ok (.slice (some ⟨g, q, none⟩) (200 - q) (203 - q)) w := by
  obtain ⟨i, hi, hsz⟩ := Option.map_eq_some_iff.1 Try.infoU32
  have hru : (sizeOf 56).run Try.prog w = .ok 1 w := by simp [sizeOf, run_typeInfo w hi, hsz]
  have h1 : (0 : Int) ≤ (q : Int) ∧ (q : Int) ≤ 200 := by omega
  have h2 : (200 : Int) ≤ ((203 : Nat) : Int) := by omega
  have h3 : ¬ 203 = q := by omega
  simp [Instr.sliceAt, Sem.run_bind, run_underlying Try.underlying58, Instr.sureAddr, Instr.sliceBounds, Instr.sliceBound, asIntOf, h1, h3, Addr.add]
  rw [if_pos hq]
  by_cases hq0 : q = 0 <;> simp [hq0]

theorem clrT_length {T : List Nat} (hT : T.length = 203) {q : Nat} (hq : q ≤ 200) : (clrT T q).length = 203 := by simp [clrT, hT]; omega

theorem clr_any {W : World} {g : Nat} {T : List Nat} (hT : T.length = 203) {t : TypeId} (h : W.heap[g]? = some (.cells (tabL T).toArray t (0, 0))) (q : Nat) (hq : q ≤ 200) :
    ∃ W2, (∀ ty, (Builtin.clear_ #[100] ty #[.slice (some ⟨g, q, none⟩) (200 - q) (203 - q)]).run Try.prog W = .ok (.tuple #[]) W2) ∧ W2.heap[g]? = some (.cells (tabL (clrT T q)).toArray t (0, 0)) ∧ Keep (fun x => x = g) W W2 ∧ W2.heap.size = W.heap.size := by
  by_cases hq0 : q = 200
  · subst hq0
    have e : clrT T 200 = T := by simp [clrT]
    rw [e]
    exact ⟨W, fun ty => by simp [Builtin.clear_, run_underlying Try.underlying100], h, Keep.refl _ W, rfl⟩
  · obtain ⟨cur', h1, h2⟩ := splice_heap g (List.replicate (200 - q) (.int .u32 0)) q W _ _ _ h (by rw [List.length_replicate, List.size_toArray, tabL_length, hT]; omega)
    have e : cur' = (tabL (clrT T q)).toArray := by
      apply Array.ext'
      rw [h2]
      simp only [splice, clrT, tabL, List.map_append, List.map_take, List.map_drop, List.map_replicate, List.length_replicate]
      rw [show q + (200 - q) = 200 by omega, List.append_assoc]
      rfl
    rw [e] at h1
    refine ⟨_, fun ty => Lib.run_clear_slice W 100 56 ty (.int .u32 0) Try.underlying100 (fun w => by kernel_rfl) rfl rfl g q (200 - q) (203 - q) (by omega) (fun j hj => ?_) (fun j hj => frozen_of_row _ _ _ _ _ h), h1, keep_setCells _ _ _ _ (Keep.refl _ W) (.inl rfl), size_setCells _ _ _ _⟩
    rw [tab_cell h (q + j) (by omega)]; rfl

structure CutR (W : World) (g : Nat) (T : List Nat) (t : TypeId) (iv : Value) (wr : World) : Prop where
  ex : ∃ k : Nat, 200 ≤ k ∧ k ≤ 203 ∧ iv = .int .i64 (k : Int) ∧ wr.heap[g]? = some (.cells (tabL (cutTo T (k - 200))).toArray t (0, 0)) ∧ Keep (fun x => x = g) W wr

theorem cutTo_length (T : List Nat) (j : Nat) : (cutTo T j).length = T.length := by
  induction j with
  | zero => rfl
  | succ j ih => rw [cutTo, cutStep]; split <;> simp [ih]

theorem cut_any {w : World} {T : List Nat} (hT : T.length = 203) (n : Nat) (hn : n ≤ 102400) :
    Calls Try.prog 28 #[.agg (tabL T).toArray, .int .i64 (n : Int)] w fun e w' => e = .returned (tabV (cutT T n)) ∧ Keep (fun _ => False) w w' := by
  obtain ⟨Z, hzt, hzs, hZ⟩ := zTab
  have HZT := Lib.hid hzt
  clear hzt
  go_enter Try.func28, Try.ntmps28
  go_wp2_with (first | (refine wpList_var_tab HZT hzs rfl rfl rfl _ _ rfl T hT rfl rfl ?_) | (refine wpList_alloc_tab HZT rfl rfl ?_))
  refine (parts_any n (by omega)).mono ?_
  rintro e w1 ⟨rfl, rfl⟩
  obtain ⟨q, hq⟩ : ∃ q, q = (n + 511) / 512 := ⟨_, rfl⟩
  have HQ := Lib.hid hq
  have hq2 : q ≤ 200 := by omega
  rw [← hq]
  clear hq
  have R0 : ((w.alloc (.cells (tabL T).toArray 58)).alloc (.cells Z 58)).heap[w.heap.size]? = some (.cells (tabL T).toArray 58 (0, 0)) := heap_past (heap_alloc_new w _)
  have R1 : Hid (((w.alloc (.cells (tabL T).toArray 58)).alloc (.cells Z 58)).heap[w.heap.size + 1]? = some (.cells Z 58 (0, 0))) := Lib.hid (by
    have := heap_alloc_new (w.alloc (.cells (tabL T).toArray 58)) (.cells Z 58)
    simpa using this)
  have K0 : Hid (Keep (fun _ => False) w ((w.alloc (.cells (tabL T).toArray 58)).alloc (.cells Z 58))) := Lib.hid (((Keep.refl _ w).alloc _).alloc _)
  obtain ⟨W2, hcl, h2, k2, s2⟩ := clr_any hT R0 q hq2
  have hsl := fun w' => slTab w.heap.size q hq2 w'
  have K2 := Lib.hid k2
  have H2 : Hid (W2.heap[w.heap.size]? = some (.cells (tabL (cutTo (clrT T q) 0)).toArray 58 (0, 0))) := Lib.hid h2
  have R2 := Lib.hid ((k2.block (w.heap.size + 1) (lt_of_block R1.out) (by omega)).trans R1.out)
  have hl2 := clrT_length hT hq2
  clear R0 h2 k2 R1
  generalize (w.alloc (.cells (tabL T).toArray 58)).alloc (.cells Z 58) = W at *
  have HE : Hid (cutT T n = cutTo (clrT T q) 3) := Lib.hid (by rw [cutT, HQ.out])
  generalize clrT T q = T1 at *
  have hx : w.heap.size < W.heap.size ∧ w.heap.size + 1 < W2.heap.size := ⟨Nat.lt_of_lt_of_le (lt_of_block H2.out) (Nat.le_of_eq s2), lt_of_block R2.out⟩
  go_wp2_with fail
  go_loopw [5] (fun i wr => CutR W2 w.heap.size T1 58 i wr) (fun i _ => 203 - (intOf i).toNat)
  case atStart => exact ⟨200, by omega, by omega, rfl, H2.out, Keep.refl _ W2⟩
  case round =>
    obtain ⟨k, hk1, hk2, rfl, hR, hK⟩ := hrel.ex
    have HR := Lib.hid hR; have HK := Lib.hid hK
    clear hR hK
    by_cases hlt : k < 203
    · have hd : decide ((k : Int) < 203) = true := by rw [decide_eq_true_eq]; omega
      have hl3 : (cutTo T1 (k - 200)).length = 203 := by rw [cutTo_length, hl2]
      have HUS := Lib.hid (used_any hl3 (tab_range HR.out) k (by omega))
      have hst : cutTo T1 (k + 1 - 200) = cutStep (cutTo T1 (k - 200)) k := by rw [show k + 1 - 200 = (k - 200) + 1 by omega, cutTo, show 200 + (k - 200) = k by omega]
      have hc := tab_cell HR.out k (by omega)
      have hfz := frozen_of_row _ _ k _ _ HR.out
      have hset := heap_setCell_at (i := k) (.int .u32 0) HR.out
      have hset' : (wr.setCell ⟨w.heap.size, k, none⟩ (.int .u32 0)).heap[w.heap.size]? = some (.cells (tabL ((cutTo T1 (k - 200)).set k 0)).toArray 58 (0, 0)) := by
        rw [← tabL_set]; simpa using hset
      cases hu : usedB (cutTo T1 (k - 200)) k
      · rw [hu] at HUS
        have HST : Hid (CutR W2 w.heap.size T1 58 (.int .i64 ((k : Int) + 1)) (wr.setCell ⟨w.heap.size, k, none⟩ (.int .u32 0))) := Lib.hid ⟨k + 1, by omega, by omega, by go_num, by rw [hst, cutStep, if_neg (by rw [hu]; simp)]; exact hset', HK.out.setCell _ _ (.inl rfl)⟩
        clear hset hset' hst hu
        generalize w.heap.size = g at *
        go_wp2_with (go_at_call 47; refine HUS.out.mono ?_; rintro e w' ⟨rfl, rfl⟩)
        go_roundw
        case rel => exact HST.out
        case measure => simp [intOf]; omega
      · rw [hu] at HUS
        have HST : Hid (CutR W2 w.heap.size T1 58 (.int .i64 ((k : Int) + 1)) wr) := Lib.hid ⟨k + 1, by omega, by omega, by go_num, by rw [hst, cutStep, if_pos hu]; exact HR.out, HK.out⟩
        clear hset hset' hst hu
        go_wp2_with (go_at_call 47; refine HUS.out.mono ?_; rintro e w' ⟨rfl, rfl⟩)
        go_roundw
        case rel => exact HST.out
        case measure => simp [intOf]; omega
    · have hd : decide ((k : Int) < 203) = false := by rw [decide_eq_false_iff_not]; omega
      obtain rfl : k = 203 := by omega
      clear hlt
      have hln : (cutTo T1 (203 - 200)).length = 203 := by rw [cutTo_length, hl2]
      have HRE := Lib.hid ((HK.out.block _ (lt_of_block R2.out) (by omega)).trans R2.out)
      go_wp2_with (first | (refine wpList_load_tabV rfl _ rfl w.heap.size 0 _ hln rfl (tab_range HR.out) ?_) | (refine wpList_store_tabV rfl _ _ rfl (w.heap.size + 1) Z _ hzs hln rfl rfl HRE.out ?_; intro w4 h4 k4 s4; have H5 := Lib.hid h4; have K5 := Lib.hid k4; have S5 := Lib.hid s4; clear h4 k4 s4))
      refine bodyPost_ret (results_cell_row Try.results28 _ _ (w.heap.size + 1) _ _ _ _ rfl H5.out Try.underlying58 rfl (by rw [List.size_toArray, tabL_length, hln]; exact Try.infoTab)) rfl ?_
      rw [HE.out]
      exact ⟨rfl, ((K0.out.trans K2.out (fun x hx => .inr (by omega))).trans HK.out (fun x hx => .inr (by omega))).trans K5.out (fun x hx => .inr (by omega))⟩

end Go.Proofs.Ytcfllloilfahnaa.Ino
