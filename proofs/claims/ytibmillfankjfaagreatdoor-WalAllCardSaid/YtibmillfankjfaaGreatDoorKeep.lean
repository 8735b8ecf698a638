/- keep and settle: a group into the log, and home. -/
import Derived.Test.YtibmillfankjfaaGreatDoorHead
namespace Go.Proofs.YtibmillfankjfaaGreatDoor
open Go.RowKit Go.Maps Go.Sort Go.Shelf
set_option maxRecDepth 100000

/-- A group, or none at all. -/
def GrpO (w : World) (mb : Option Nat) (g : Grp) : Prop := (mb = none ∧ g = []) ∨ ∃ b, mb = some b ∧ IsGrp w b g

theorem GrpO.ok {w : World} {mb : Option Nat} {g : Grp} (h : GrpO w mb g) : GOk g := by
  rcases h with ⟨_, rfl⟩ | ⟨_, _, h⟩
  · exact GOk.nil
  · exact h.ok

theorem GrpO.keep {F : Nat → Prop} {w w' : World} {mb : Option Nat} {g : Grp} (h : GrpO w mb g) (k : Keep F w w') (hF : ∀ b, mb = some b → ¬ F b) : GrpO w' mb g := by
  rcases h with h | ⟨b, e, h⟩
  · exact .inl h
  · exact .inr ⟨b, e, h.keep k (hF b e)⟩

theorem GrpO.there {w : World} {b : Nat} {g : Grp} (h : GrpO w (some b) g) : IsGrp w b g := by
  rcases h with ⟨e, _⟩ | ⟨_, e, h⟩
  · cases e
  · cases e; exact h

theorem GrpO.lt {w : World} {mb : Option Nat} {g : Grp} (h : GrpO w mb g) {b : Nat} (hb : mb = some b) : b < w.heap.size := by
  rcases h with ⟨e, _⟩ | ⟨_, e, h⟩
  · rw [e] at hb; cases hb
  · rw [e] at hb; cases hb; exact h.lt

set_option maxHeartbeats 1000000 in
theorem homes_none (w : World) : Calls Tryz.prog 39 #[.map none] w fun e w' => e = .returned (.slice none 0 0) ∧ Below w.heap.size w w' := by
  refine (callsIn_wide (n := 6)).1 ?_
  have hseq : SeqGives Fence.wide 2 Tryz.prog 65 #[.pointer (some ⟨w.heap.size, 0, none⟩)] encZ (fun ss : List Int => ss = []) 0 (w.alloc (.cells #[.map none] 57)) :=
    AnyZI.keys_gives_nil (ρ := Tryz.keysA_ren) { Tryz.keysA with } Fence.wide _ trivial rfl w.heap.size _ (by simp) (by simp)
  have cK : ∀ mb W, CallsIn Fence.wide 5 Tryz.prog 55 #[.map mb] W fun e w' => e = .returned (.func (.func 65) #[] #[.pointer (some ⟨W.heap.size, 0, none⟩)]) ∧ w' = W.alloc (.cells #[.map mb] 57) := fun mb W => AnyZI.keys_in Tryz.keysA Fence.wide 5 trivial rfl mb W
  have cS := AnyZI.sorted_in Tryz.sortedA Fence.wide 5 trivial trivial trivial trivial rfl (by omega) (Tryz.sortsA _) (enters_of Tryz.func64 (by kernel_rfl) rfl) 65 #[.pointer (some ⟨w.heap.size, 0, none⟩)] trivial (enters_of Tryz.func65 (by kernel_rfl) rfl) _ 0 (Nat.zero_le _) (by omega) _ hseq
  change CallsIn _ _ Tryz.prog 54 _ _ _ at cS
  have hfK : Fence.wide.fn 55 := trivial
  have hfS : Fence.wide.fn 54 := trivial
  refine callsIn_of_wp Tryz.func39 rfl trivial ?_ rfl
  simp only [Tryz.ntmps39, List.size_toArray, List.length_cons, List.length_nil, Nat.reduceAdd, Nat.reduceSub, Array.replicate_succ, Array.replicate_zero, List.push_toArray, List.append_toArray, List.nil_append, List.cons_append]
  gi_wp2_with (first | (gi_at_call 55; refine (cK _ _).mono ?_; rintro e w' ⟨rfl, rfl⟩) | (gi_at_call 54; refine cS.mono ?_; rintro e w' ⟨v, ss, rfl, rfl, hrow, hnil, hb⟩; obtain rfl : v = .slice none 0 0 := hnil.2 rfl))
  go_ret
  exact ⟨rfl, ((Below.refl _ w).alloc (Nat.le_refl _) _).trans (hb.mono (by simp))⟩

theorem homesO_any {w : World} {mb : Option Nat} {g : Grp} (h : GrpO w mb g) (hn : g.length < 1000000) :
    Calls Tryz.prog 39 #[.map mb] w fun e w' => ∃ v, e = .returned v ∧ Row w' 3 1 v g.length (ints (gkeys g)) ∧ Keep (fun _ => False) w w' ∧ (∀ k, v.ownBlock = some k → w.heap.size ≤ k) := by
  rcases h with ⟨rfl, rfl⟩ | ⟨b, rfl, h⟩
  · refine (homes_none w).mono ?_
    rintro e w' ⟨rfl, hb⟩
    exact ⟨_, rfl, Row.nil _ _ _, Keep.of_below hb, by simp [Value.ownBlock]⟩
  · exact homes_any h hn

/-- The writes of a group into the log; home. -/
def kd (D : Dk) (g : Grp) : Nat → Dk
  | 0 => D
  | k + 1 => (kd D g k).dw (1 + k) (gsec g (gkey g k))

def sd (D : Dk) (g : Grp) : Nat → Dk
  | 0 => D
  | k + 1 => (sd D g k).dw (gkey g k) (gsec g (gkey g k))

def keepD (D : Dk) (g : Grp) : Dk := ((kd D g g.length).df.dw 0 (headOf g)).df
def settleD (D : Dk) (g : Grp) : Dk := ((sd D g g.length).df.dw 0 zeroSec).df

theorem kd_len (D : Dk) (g : Grp) : ∀ k, (kd D g k).las.length = D.las.length
  | 0 => rfl
  | k + 1 => by rw [kd, Dk.dw_las, kd_len D g k]

theorem sd_len (D : Dk) (g : Grp) : ∀ k, (sd D g k).las.length = D.las.length
  | 0 => rfl
  | k + 1 => by rw [sd, Dk.dw_las, sd_len D g k]

theorem keepD_len (D : Dk) (g : Grp) : (keepD D g).las.length = D.las.length := by rw [keepD, Dk.df_len, Dk.dw_las, Dk.df_len, kd_len]
theorem settleD_len (D : Dk) (g : Grp) : (settleD D g).las.length = D.las.length := by rw [settleD, Dk.df_len, Dk.dw_las, Dk.df_len, sd_len]

theorem gsec_size {g : Grp} (h : GOk g) (i : Nat) : (gsec g i).size = 512 := gget_size h i

theorem DiskAt.widen {w : World} {F G : Nat → Prop} {p : Nat} {D : Dk} {n : Nat} (h : DiskAt w F p D n) (hG : ∀ b, F b → G b) (hlt : ∀ b, G b → b < w.heap.size) : DiskAt w G p D n := ⟨h.disk.mono hG, hlt, h.mild⟩

/-- Where the writing of a group has come to. -/
structure PutAt (w1 : World) (F : Nat → Prop) (p : Nat) (mb : Option Nat) (g : Grp) (v : Value) (D : Dk) (n : Nat) (wr : World) : Prop where
  disk : DiskAt wr (grow F w1 wr) p D n
  grp : GrpO wr mb g
  row : Row wr 3 1 v g.length (ints (gkeys g))
  tab : Tab wr
  keep : Keep F w1 wr

structure Apart (w1 : World) (F : Nat → Prop) (mb : Option Nat) (v : Value) : Prop where
  grp : ∀ b, mb = some b → ¬ F b ∧ b < w1.heap.size
  row : ∀ b, v.ownBlock = some b → ¬ F b ∧ b < w1.heap.size
  tab : ¬ F 1 ∧ 1 < w1.heap.size

theorem not_grow {F : Nat → Prop} {w w' : World} {b : Nat} (h : ¬ F b ∧ b < w.heap.size) : ¬ grow F w w' b := by
  rintro (hb | hb)
  · exact h.1 hb
  · omega

theorem PutAt.start {w1 : World} {F : Nat → Prop} {p : Nat} {mb : Option Nat} {g : Grp} {v : Value} {D : Dk} {n : Nat} (hd : DiskAt w1 F p D n) (hg : GrpO w1 mb g) (hr : Row w1 3 1 v g.length (ints (gkeys g))) (hT : Tab w1) : PutAt w1 F p mb g v D n w1 :=
  ⟨hd.widen (fun _ hb => .inl hb) (fun b hb => by rcases hb with hb | hb; exact hd.lt b hb; omega), hg, hr, hT, Keep.refl _ _⟩

theorem PutAt.turn {w1 wr wr' : World} {F : Nat → Prop} {p : Nat} {mb : Option Nat} {g : Grp} {v : Value} {D D' : Dk} {n n' : Nat} (h : PutAt w1 F p mb g v D n wr) (a : Apart w1 F mb v) (hd : DiskAt wr' (grow (grow F w1 wr) wr wr') p D' n') (k : Keep (grow F w1 wr) wr wr') : PutAt w1 F p mb g v D' n' wr' := by
  rw [grow_grow h.keep.size k.size] at hd
  exact ⟨hd, h.grp.keep k (fun b hb => not_grow (a.grp b hb)), h.row.keep k (fun b hb => not_grow (a.row b hb)), h.tab.keep k (not_grow a.tab), h.keep.grown2 k⟩

theorem PutAt.go {w1 wr wr' : World} {F : Nat → Prop} {p : Nat} {mb : Option Nat} {g : Grp} {v : Value} {D : Dk} {n : Nat} (h : PutAt w1 F p mb g v D n wr) (k : Keep (fun _ => False) wr wr') : PutAt w1 F p mb g v D n wr' := by
  have hk : Keep F w1 wr' := h.keep.trans k (fun _ h => h.elim)
  refine ⟨(h.disk.keep0 k).widen (fun b hb => ?_) (fun b hb => ?_), h.grp.keep k (fun _ _ h => h), h.row.keep k (fun _ _ h => h), h.tab.keep k (fun h => h), hk⟩
  · rcases hb with hb | hb
    · exact .inl hb
    · have := k.size; exact .inr (by omega)
  · rcases hb with hb | hb
    · have := h.disk.lt b (.inl hb); have := k.size; omega
    · exact hb.2

set_option maxHeartbeats 2000000 in
/-- A group home, and the log empty. -/
theorem settle_any {w : World} {F : Nat → Prop} {p : Nat} {D : Dk} {n : Nat} {mb : Option Nat} {g : Grp} (hT : Tab w) (h : DiskAt w F p D n) (hn : n < 500000000000) (hg : GrpO w mb g) (hgn : g.length ≤ 100) (hlen : 128 ≤ D.las.length)
    (hin : ∀ k, k < g.length → gkey g k < D.las.length) (hb : ∀ b, mb = some b → ¬ F b) (hc : ¬ F 1) :
    Calls Tryz.prog 21 #[.pointer (some ⟨p, 0, none⟩), .map mb] w fun e w' => e = .returned (.tuple #[]) ∧ DiskAt w' (grow F w w') p (settleD D g) (n + g.length + 1) ∧ Keep F w w' := by
  have HT := Lib.hid hT; have HD := Lib.hid h; have HG := Lib.hid hg; have HIN := Lib.hid hin; have HB := Lib.hid hb; have HC := Lib.hid hc
  have HOK := Lib.hid hg.ok
  clear hT h hg hin hb hc
  go_enter Tryz.func21, Tryz.ntmps21
  go_wp2_with (go_at_call 39; refine (homesO_any HG.out (by omega)).mono ?_; rintro e w1 ⟨v, rfl, hr, k1, ho⟩; have HK1 := Lib.hid k1; have HR := Lib.hid hr; have HO := Lib.hid ho; obtain ⟨av, capv, rfl, _, hcv⟩ := hr.slice; unfold maxLen at hcv; clear hr k1 ho)
  have HA : Hid (Apart w1 F mb (.slice av g.length capv)) := Lib.hid ⟨fun b e => ⟨HB.out b e, Nat.lt_of_lt_of_le (HG.out.lt e) HK1.out.size⟩, fun b e => ⟨fun hf => by have := HD.out.lt b hf; have := HO.out b e; omega, HR.out.lt e⟩, ⟨HC.out, Nat.lt_of_lt_of_le HT.out.lt HK1.out.size⟩⟩
  have H1 : Hid (PutAt w1 F p mb g (.slice av g.length capv) D n w1) := Lib.hid (PutAt.start (HD.out.keep0 HK1.out) (HG.out.keep HK1.out (fun _ _ h => h)) HR.out (HT.out.keep HK1.out (fun h => h)))
  obtain ⟨m, hm'⟩ : ∃ m, m = g.length := ⟨_, rfl⟩
  have HN := Lib.hid hm'
  simp only [← hm'] at HA H1 hgn ⊢
  clear hm' HR HO
  go_loopw [9] (fun i wr => ∃ k : Nat, k ≤ m ∧ i = .int .i64 k ∧ PutAt w1 F p mb g (.slice av m capv) (sd D g k) (n + k) wr) (fun i _ => m - (intOf i).toNat)
  case atStart => exact ⟨0, by omega, rfl, H1.out⟩
  case round =>
    obtain ⟨k, hk, rfl, hF⟩ := hrel
    by_cases hlt : k < m
    · have hR := hF.row
      rw [← HN.out] at hR
      obtain ⟨gv, ov, capv', hv, _, _⟩ := hR.full (by omega)
      simp only [Value.slice.injEq, true_and] at hv
      obtain ⟨rfl, rfl⟩ := hv
      have c0 : wr.cell? ⟨gv, ov + k, none⟩ = some (.int .i64 (gkey g k : Int)) := by
        rw [hR.cellAt k (by omega)]; exact ints_get g k (by rw [← HN.out]; exact hlt)
      have hkey := gkey_lt HOK.out k
      have HKL : Hid (gkey g k < (sd D g k).las.length) := Lib.hid (by rw [sd_len]; exact HIN.out k (by rw [← HN.out]; exact hlt))
      have HS := Lib.hid (gget_size HOK.out (gkey g k))
      have HST : Hid (sd D g (k + 1) = (sd D g k).dw (gkey g k) ((glook g (gkey g k)).getD zeroSec)) := Lib.hid rfl
      have hg2 := hF.grp
      rcases hg2 with ⟨_, hnil⟩ | ⟨b, rfl, hg3⟩
      · have := HN.out; rw [hnil] at this; simp at this; omega
      have HG3 := Lib.hid hg3
      have HF := Lib.hid hF
      generalize gkey g k = key at *
      generalize sd D g k = D' at *
      clear hF hR hg3
      go_wp2_with (first | (refine wpList_look rfl _ _ rfl b g key rfl rfl HG3.out hkey ?_) | (go_at_call 40; refine (wr_any HF.out.disk (by omega) key HKL.out ((glook g key).getD zeroSec) HS.out).mono ?_; rintro e w3 ⟨rfl, h3, k3⟩; have H3 := Lib.hid (HF.out.turn HA.out h3 k3); clear h3 k3))
      go_roundw
      case rel => exact ⟨k + 1, by omega, by go_num, by rw [HST.out]; exact H3.out⟩
      case measure => simp [intOf]; omega
    · obtain rfl : k = m := by omega
      have HF := Lib.hid hF
      have HL : Hid (0 < (sd D g k).df.las.length) := Lib.hid (by rw [Dk.df_len, sd_len]; omega)
      have HST : Hid (((sd D g k).df.dw 0 zeroSec).df = settleD D g) := Lib.hid (by rw [settleD, HN.out])
      generalize sd D g k = D' at *
      clear hF hk hlt
      go_wp2_with (first | (refine wpList_build_zero rfl rfl ?_) | (have _t := HL; go_at_call 19; refine (fl_any HF.out.disk).mono ?_; rintro e w3 ⟨rfl, h3, k3⟩; have H3 := Lib.hid (HF.out.turn HA.out h3 k3); have HL2 := Lib.hid HL.out; clear h3 k3 HL) | (go_at_call 40; refine (wr_any H3.out.disk (by omega) 0 HL2.out zeroSec zeroSec_size).mono ?_; rintro e w4 ⟨rfl, h4, k4⟩; have H4 := Lib.hid (H3.out.turn HA.out h4 k4); clear h4 k4) | (go_at_call 19; refine (fl_any H4.out.disk).mono ?_; rintro e w5 ⟨rfl, h5, k5⟩; have H5 := Lib.hid (H4.out.turn HA.out h5 k5); clear h5 k5))
      go_end0
      have hf := H5.out
      rw [HST.out] at hf
      have hk : Keep F w w5 := (HK1.out.mono (fun _ _ h => h.elim)).trans hf.keep (fun _ h => .inl h)
      refine ⟨rfl, (hf.disk.widen (fun b hb => ?_) (fun b hb => ?_)).mono (by rw [HN.out]; exact Nat.le_refl _), hk⟩
      · rcases hb with hb | hb
        · exact .inl hb
        · have := HK1.out.size; exact .inr (by omega)
      · rcases hb with hb | hb
        · exact hf.disk.lt b (.inl hb)
        · exact hb.2

set_option maxHeartbeats 2000000 in
/-- A group into the log, and its head. -/
theorem keep_any {w : World} {F : Nat → Prop} {p : Nat} {D : Dk} {n : Nat} {b : Nat} {g : Grp} (hT : Tab w) (h : DiskAt w F p D n) (hn : n < 500000000000) (hg : IsGrp w b g) (hgn : g.length ≤ 100) (hlen : 128 ≤ D.las.length)
    (hb : ¬ F b) (hc : ¬ F 1) :
    Calls Tryz.prog 33 #[.pointer (some ⟨p, 0, none⟩), .map (some b)] w fun e w' => e = .returned (.tuple #[]) ∧ DiskAt w' (grow F w w') p (keepD D g) (n + g.length + 1) ∧ Keep F w w' := by
  have HT := Lib.hid hT; have HD := Lib.hid h; have HG : Hid (GrpO w (some b) g) := Lib.hid (.inr ⟨b, rfl, hg⟩); have HB := Lib.hid hb; have HC := Lib.hid hc
  have HOK := Lib.hid hg.ok
  clear hT h hg hb hc
  go_enter Tryz.func33, Tryz.ntmps33
  go_wp2_with (go_at_call 39; refine (homesO_any HG.out (by omega)).mono ?_; rintro e w1 ⟨v, rfl, hr, k1, ho⟩; have HK1 := Lib.hid k1; have HR := Lib.hid hr; have HO := Lib.hid ho; obtain ⟨av, capv, rfl, _, hcv⟩ := hr.slice; unfold maxLen at hcv; clear hr k1 ho)
  have HA : Hid (Apart w1 F (some b) (.slice av g.length capv)) := Lib.hid ⟨fun b' e => ⟨by cases e; exact HB.out, Nat.lt_of_lt_of_le (HG.out.lt e) HK1.out.size⟩, fun b e => ⟨fun hf => by have := HD.out.lt b hf; have := HO.out b e; omega, HR.out.lt e⟩, ⟨HC.out, Nat.lt_of_lt_of_le HT.out.lt HK1.out.size⟩⟩
  have H1 : Hid (PutAt w1 F p (some b) g (.slice av g.length capv) D n w1) := Lib.hid (PutAt.start (HD.out.keep0 HK1.out) (HG.out.keep HK1.out (fun _ _ h => h)) HR.out (HT.out.keep HK1.out (fun h => h)))
  obtain ⟨m, hm'⟩ : ∃ m, m = g.length := ⟨_, rfl⟩
  have HN := Lib.hid hm'
  simp only [← hm'] at HA H1 hgn ⊢
  clear hm' HR HO
  go_loopw [9] (fun i wr => ∃ k : Nat, k ≤ m ∧ i = .int .i64 k ∧ PutAt w1 F p (some b) g (.slice av m capv) (kd D g k) (n + k) wr) (fun i _ => m - (intOf i).toNat)
  case atStart => exact ⟨0, by omega, rfl, H1.out⟩
  case round =>
    obtain ⟨k, hk, rfl, hF⟩ := hrel
    by_cases hlt : k < m
    · have hR := hF.row
      rw [← HN.out] at hR
      obtain ⟨gv, ov, capv', hv, _, _⟩ := hR.full (by omega)
      simp only [Value.slice.injEq, true_and] at hv
      obtain ⟨rfl, rfl⟩ := hv
      have c0 : wr.cell? ⟨gv, ov + k, none⟩ = some (.int .i64 (gkey g k : Int)) := by
        rw [hR.cellAt k (by omega)]; exact ints_get g k (by rw [← HN.out]; exact hlt)
      have hkey := gkey_lt HOK.out k
      have HKL : Hid (1 + k < (kd D g k).las.length) := Lib.hid (by rw [kd_len]; omega)
      have HS := Lib.hid (gget_size HOK.out (gkey g k))
      have HST : Hid (kd D g (k + 1) = (kd D g k).dw (1 + k) ((glook g (gkey g k)).getD zeroSec)) := Lib.hid rfl
      have HG3 := Lib.hid hF.grp.there
      have HF := Lib.hid hF
      generalize gkey g k = key at *
      generalize kd D g k = D' at *
      clear hF hR
      go_wp2_with (first | (refine wpList_look rfl _ _ rfl b g key rfl rfl HG3.out hkey ?_) | (go_at_call 40; refine (wr_any HF.out.disk (by omega) (1 + k) HKL.out ((glook g key).getD zeroSec) HS.out).mono ?_; rintro e w3 ⟨rfl, h3, k3⟩; have H3 := Lib.hid (HF.out.turn HA.out h3 k3); clear h3 k3))
      go_roundw
      case rel => exact ⟨k + 1, by omega, by go_num, by rw [HST.out]; exact H3.out⟩
      case measure => simp [intOf]; omega
    · obtain rfl : k = m := by omega
      have HF := Lib.hid hF
      have HL : Hid (0 < (kd D g k).df.las.length) := Lib.hid (by rw [Dk.df_len, kd_len]; omega)
      have HST : Hid (((kd D g k).df.dw 0 (headOf g)).df = keepD D g) := Lib.hid (by rw [keepD, HN.out])
      generalize kd D g k = D' at *
      clear hF hk hlt
      go_wp2_with (first | (go_at_call 43; refine (head_any H3.out.tab H3.out.grp.there (by rw [← HN.out]; omega)).mono ?_; rintro e w9 ⟨rfl, k9⟩; have H9 := Lib.hid (H3.out.go k9); clear k9) | (have _t := HL; go_at_call 19; refine (fl_any HF.out.disk).mono ?_; rintro e w3 ⟨rfl, h3, k3⟩; have H3 := Lib.hid (HF.out.turn HA.out h3 k3); have HL2 := Lib.hid HL.out; clear h3 k3 HL) | (go_at_call 40; refine (wr_any H9.out.disk (by omega) 0 HL2.out (headOf g) (headOf_size g)).mono ?_; rintro e w4 ⟨rfl, h4, k4⟩; have H4 := Lib.hid (H9.out.turn HA.out h4 k4); clear h4 k4) | (go_at_call 19; refine (fl_any H4.out.disk).mono ?_; rintro e w5 ⟨rfl, h5, k5⟩; have H5 := Lib.hid (H4.out.turn HA.out h5 k5); clear h5 k5))
      go_end0
      have hf := H5.out
      rw [HST.out] at hf
      have hk : Keep F w w5 := (HK1.out.mono (fun _ _ h => h.elim)).trans hf.keep (fun _ h => .inl h)
      refine ⟨rfl, (hf.disk.widen (fun b hb => ?_) (fun b hb => ?_)).mono (by rw [HN.out]; exact Nat.le_refl _), hk⟩
      · rcases hb with hb | hb
        · exact .inl hb
        · have := HK1.out.size; exact .inr (by omega)
      · rcases hb with hb | hb
        · exact hf.disk.lt b (.inl hb)
        · exact hb.2

end Go.Proofs.YtibmillfankjfaaGreatDoor
