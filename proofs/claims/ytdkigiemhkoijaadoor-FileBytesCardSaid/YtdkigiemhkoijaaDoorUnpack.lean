/- Files on blocks: unpack. -/
import Derived.Test.YtdkigiemhkoijaaDoorLearn
import Derived.Test.YtdkigiemhkoijaaDoorBytes
import Derived.Test.YtdkigiemhkoijaaDoorMay
namespace Go.Proofs.YtdkigiemhkoijaaDoor.Ino
open Go.RowKit Go.Maps Go.Proofs.YtdkigiemhkoijaaDoor
set_option maxRecDepth 100000

/-- A table with the first i heads of another. -/
def headI (T : List Nat) : Nat → List Nat
  | 0 => zero203
  | i + 1 => (headI T i).set (headK i) (tg T (headK i))

theorem headI_length (T : List Nat) (i : Nat) : (headI T i).length = 203 := by
  induction i with
  | zero => simp [headI, zero203]
  | succ i ih => rw [headI, List.length_set, ih]

theorem headI_tg (T : List Nat) (n k : Nat) (hn : n ≤ 10) : tg (headI T n) k = if ∃ i, i < n ∧ headK i = k then tg T k else 0 := by
  induction n with
  | zero => rw [headI, tg_zero203, if_neg (by rintro ⟨i, h, _⟩; omega)]
  | succ n ih =>
    have hk := (headK_at (i := n) (by omega)).2
    rw [headI, tg_set _ _ _ _ (by rw [headI_length]; exact hk), ih (by omega)]
    by_cases e : k = headK n
    · rw [if_pos e, if_pos ⟨n, by omega, e.symm⟩, e]
    · rw [if_neg e]
      by_cases h : ∃ i, i < n ∧ headK i = k
      · obtain ⟨i, h1, h2⟩ := h
        rw [if_pos ⟨i, h1, h2⟩, if_pos ⟨i, by omega, h2⟩]
      · rw [if_neg h, if_neg]
        rintro ⟨i, h1, h2⟩
        rcases (show i < n ∨ i = n by omega) with h3 | h3
        · exact h ⟨i, h3, h2⟩
        · subst h3; exact e h2.symm

theorem headI_or (T : List Nat) (k : Nat) : tg (headI T 10) k = tg T k ∨ tg (headI T 10) k = 0 := by
  rw [headI_tg T 10 k (Nat.le_refl _)]
  split
  · exact .inl rfl
  · exact .inr rfl

theorem bytesL_heads (size : Nat) (T : List Nat) : bytesL size (headI T 10) = bytesL size T := by
  have h : ∀ k ∈ headsL, tg (headI T 10) k = tg T k := fun k hk => by
    obtain ⟨i, hi, rfl⟩ := List.mem_iff_getElem.1 hk
    rw [headI_tg T 10 _ (Nat.le_refl _), if_pos]
    refine ⟨i, hi, ?_⟩
    rw [headK, List.getD_eq_getElem?_getD, List.getElem?_eq_getElem hi]; rfl
  have h2 : (headsL.take 10).flatMap (fun k => le32 (tg (headI T 10) k)) = (headsL.take 10).flatMap (fun k => le32 (tg T k)) := by
    rw [show headsL.take 10 = headsL from rfl]
    simp only [List.flatMap_def]
    rw [List.map_congr_left fun k hk => by rw [h k hk]]
  unfold bytesL frontL
  rw [h2]

theorem equal_any {w : World} {v u : Value} {n m : Nat} {l : List UInt8} (h : Row w 5 1 v n (bcells l)) (k : Row w 5 1 u m (bcells l)) : Calls Tryd.prog 33 #[v, u] w fun e w' => e = .returned (.bool true) ∧ Keep (fun _ => False) w w' := by
  have q1 := str_row h (by have := h.1; rw [bcells_length] at this; omega)
  have q2 := str_row k (by have := k.1; rw [bcells_length] at this; omega)
  go_enter Tryd.func33, Tryd.ntmps33
  go_wp2
  go_ret
  exact ⟨rfl, Keep.refl _ w⟩

structure UnpR (w : World) (F : Nat → Prop) (p s : Nat) (S : Sto) (size : Nat) (T : List Nat) (iv : Value) (wr : World) : Prop where
  ex : ∃ i : Nat, i ≤ 10 ∧ iv = .int .i64 (i : Int) ∧ IsFile wr F p s S size (headI T i) ∧ Keep (fun x => x = p) w wr

theorem frontL_drop (size : Nat) (T : List Nat) {i : Nat} (hi : i < 10) : ∃ r, (bytesL size T).drop (4 + 4 * i) = le32 (tg T (headK i)) ++ r := by
  have h : bytesL size T = frontL size T i ++ (le32 (tg T (headK i)) ++ ((headsL.drop (i + 1)).flatMap (fun k => le32 (tg T k)) ++ List.replicate 20 0)) := by
    have h1 : headsL = headsL.take i ++ headK i :: headsL.drop (i + 1) := by
      have := (headK_at hi).1
      obtain ⟨hl, hg⟩ := List.getElem?_eq_some_iff.1 this
      rw [← hg, ← List.drop_eq_getElem_cons hl, List.take_append_drop]
    unfold bytesL frontL
    rw [show headsL.take 10 = headsL from rfl]
    conv => lhs; rw [h1]
    simp [List.flatMap_append, List.append_assoc]
  rw [h, ← frontL_length size T i (by omega), List.drop_left]
  exact ⟨_, rfl⟩

theorem le32_front (size : Nat) (T : List Nat) : ∃ r, bytesL size T = le32 size ++ r := ⟨_, by unfold bytesL frontL; rw [List.append_assoc]⟩

/-- A file's size told anew. -/
theorem IsFile.setsize {w : World} {F : Nat → Prop} {p s : Nat} {S : Sto} {size : Nat} {U : List Nat} (h : IsFile w F p s S size U) (z : Nat) : IsFile (w.setCell ⟨p, 1, none⟩ (.int .i64 (z : Int))) F p s S z U := by
  have hs := heap_setCell_at (i := 1) (.int .i64 (z : Int)) h.head
  have hk : Keep (fun y => y = p) w (w.setCell ⟨p, 1, none⟩ (.int .i64 (z : Int))) := (Keep.refl _ w).setCell _ _ (.inl rfl)
  obtain ⟨b, D, hst⟩ := h.sto
  exact ⟨by rw [hs]; simp, ⟨b, D, hst.keep hk (fun y hy e => h.pF (e ▸ hy))⟩, h.pF, h.len, h.fit⟩

set_option maxHeartbeats 2000000 in
theorem unpack_any {w : World} {F : Nat → Prop} {p s : Nat} {S : Sto} {size : Nat} {T : List Nat} (h : IsFile w F p s S 0 zero203) (hh : HeadsAt w) (hs : size ≤ 102400) (hT : T.length = 203) (hi : InjL T) (hfT : ∀ x ∈ T, x < 4294967296) (hf : ∀ k, k < 203 → tg T k ≠ 0 → firstP k < (size + 511) / 512)
    (hsort : ∀ (w : World) (g : Nat) (t : TypeId), SR w g t w → Calls Tryd.prog 39 #[tabS g] w fun e w' => e = .returned (.tuple #[]) ∧ SR w g t w')
    {v : Value} (hv : Row w 5 1 v 64 (bcells (bytesL size T))) (hvp : v.ownBlock ≠ some p) :
    Calls Tryd.prog 18 #[.pointer (some ⟨p, 0, none⟩), v] w fun e w' => e = .returned (.bool true) ∧ IsFile w' F p s S size (headI T 10) ∧ Keep (fun x => x = p) w w' := by
  have H := Lib.hid h; have HH := Lib.hid hh; have HV := Lib.hid hv
  obtain ⟨gv, ov, cv, rfl, hcv, hcv2⟩ := hv.full (by omega)
  have hgp : ¬ gv = p := fun e => hvp (by rw [e]; rfl)
  obtain ⟨r0, hr0⟩ := le32_front size T
  have hg32 := fun (w : World) (hs2 : Seen w 1 (.slice (some ⟨gv, ov, none⟩) 64 cv) 64 (bcells (le32 size ++ r0))) => get32_any (w := w) (x := size) (by omega) hs2
  have HG32 := Lib.hid (hg32 w (by rw [← hr0]; exact HV.out.seen))
  have c1 := h.cell 1
  simp only [List.getElem?_cons_succ, List.getElem?_cons_zero] at c1
  clear h hh hv hg32 hr0
  go_enter Tryd.func18, Tryd.ntmps18
  have hgw : 0 < w.heap.size := World.block_lt_of_cell? _ _ (HH.out 0 _ rfl)
  have hgh1 : ∀ gg : Nat, gg = 0 → w.cell? ⟨gg, 0, none⟩ = some (.int .i64 0) := fun gg e => by rw [e]; exact HH.out 0 _ rfl
  have hgh : ¬ 0 = p := fun e => by
    have h1 := hgh1 p e.symm
    rw [H.out.cell 0] at h1
    simp at h1
  go_wp2_with (first | (go_at_call 32; refine HG32.out.mono ?_; rintro e w1 ⟨rfl, k1⟩; have K1 := Lib.hid k1; have c2 : w1.cell? ⟨p, 1, none⟩ = some (.int .i64 0) := (k1.cell (World.block_lt_of_cell? _ _ c1) (fun h => h) _).trans c1; have f2 := frozen_of_row _ _ 1 _ _ (H.out.keep0 k1).head; have HS1 := Lib.hid ((H.out.keep0 k1).setsize size); have KS1 := Lib.hid (((k1.mono (fun _ _ h => h.elim) : Keep (fun x => x = p) w w1).setCell ⟨p, 1, none⟩ (.int .i64 (size : Int)) (.inl rfl))); have HHS := Lib.hid (HH.out.keep KS1.out hgh); clear k1) | (refine wpList_load_mid rfl 65 _ rfl 0 0 rfl headCells _ HHS.out Tryd.underlying65 rfl (by rw [show headCells.length = 10 from rfl]; exact Tryd.infoHeads) ?_))
  have KSW : Hid (Keep (fun x => x = p) w (w1.setCell ⟨p, 1, none⟩ (.int .i64 (size : Int)))) := KS1
  clear c2 f2 KS1 HHS hgh1
  generalize w1.setCell ⟨p, 1, none⟩ (.int .i64 (size : Int)) = w2 at *
  go_loopw [17] (fun iv wr => UnpR w F p s S size T iv wr) (fun iv _ => 10 - (intOf iv).toNat)
  case atStart => exact ⟨0, by omega, rfl, HS1.out, KSW.out⟩
  case round =>
    obtain ⟨i, hi10, rfl, hI, hK⟩ := hrel.ex
    have HI := Lib.hid hI; have HK := Lib.hid hK
    clear hI hK hrel
    by_cases hlt : i < 10
    · have hd : decide ((i : Int) < 10) = true := by rw [decide_eq_true_eq]; omega
      obtain ⟨k, hk⟩ : ∃ k, k = headK i := ⟨_, rfl⟩
      have hk2 : k < 203 := by rw [hk]; exact (headK_at hlt).2
      obtain ⟨x, hx⟩ : ∃ x, x = tg T k := ⟨_, rfl⟩
      have hxf : x < 4294967296 := by rw [hx]; exact hfT _ (tg_mem (by omega))
      obtain ⟨o, ho⟩ : ∃ o, o = 4 + 4 * i := ⟨_, rfl⟩
      obtain ⟨m4, hm4⟩ : ∃ m4, m4 = 4 * i := ⟨_, rfl⟩
      have e1 : 4 * (i : Int) = (m4 : Int) := by omega
      have e2 : 4 + (m4 : Int) = (o : Int) := by omega
      have hw1 := i64_nat m4 (by omega)
      have hw2 := i64_nat o (by omega)
      have ho6 : (o : Int) ≤ 64 := by omega
      have hno : ¬ cv = o := by omega
      obtain ⟨r, hr⟩ := frontL_drop size T hlt
      have hvr : Row wr 5 1 (.slice (some ⟨gv, ov, none⟩) 64 cv) 64 (bcells (bytesL size T)) := HV.out.keep HK.out (fun y hy e => by simp [Value.ownBlock] at hy; omega)
      have hsn := Seen.from hvr.drew.seen (m := o) (by omega)
      rw [if_neg hno, show (bcells (bytesL size T)).drop o = bcells (le32 x ++ r) by rw [ho, hx, hk, ← hr]; simp [bcells, List.map_drop]] at hsn
      have HSN := Lib.hid hsn
      obtain ⟨v0, q1⟩ : ∃ v0, wr.cell? ⟨gv, ov, none⟩ = some v0 := by
        have := hvr.cellAt 0 (by omega)
        rw [Nat.add_zero] at this
        exact ⟨_, this.trans (List.getElem?_eq_getElem (by rw [bcells_length]; simp [bytesL, frontL_length size T 10 (by omega)]))⟩
      have HST := Lib.hid (fun (w5 : World) (k5 : Keep (fun _ => False) wr w5) => by
        have h := (HI.out.keep0 k5).setnum k x hxf
        rw [hx, hk, ← headI, ← hk, ← hx] at h
        exact (And.intro h ((HK.out.trans k5 (fun _ h => h.elim)).setCell ⟨p, 2 + k, none⟩ (.int .u32 (x : Int)) (.inl rfl)) : IsFile (w5.setCell ⟨p, 2 + k, none⟩ (.int .u32 (x : Int))) F p s S size (headI T (i + 1)) ∧ Keep (fun x => x = p) w (w5.setCell ⟨p, 2 + k, none⟩ (.int .u32 (x : Int)))))
      have HCL := Lib.hid (fun (w5 : World) (k5 : Keep (fun _ => False) wr w5) => by
        have h := (HI.out.keep0 k5).num k hk2
        have h2 := frozen_of_row _ _ (2 + k) _ _ (HI.out.keep0 k5).head
        exact (And.intro h h2 : w5.cell? ⟨p, 2 + k, none⟩ = some (.int .u32 ((tg (headI T i) k : Nat) : Int)) ∧ w5.frozen? ⟨p, 2 + k, none⟩ = false))
      have hne2 : ¬ p = gv := fun e => hgp e.symm
      have hq7 : (k : Int) < 203 := by omega
      have HKK := Lib.hid hk
      clear hsn hvr hr hx hk ho hm4
      go_wp2_with (refine wpList_index_heads rfl _ _ rfl i k hlt HKK.out rfl rfl ?_)
      go_region_held3 (fun w' => w'.cell? ⟨gv, ov, none⟩ = some v0) (go_keep) (first | (go_at_call 32; refine (get32_any hxf HSN.out).mono ?_; rintro e w5 ⟨rfl, k5⟩; have k6 : Keep (fun _ => False) wr w5 := ((Keep.refl (fun _ => False) wr).drew).trans k5 (fun _ h => h.elim); have HS5 := Lib.hid (HST.out w5 k6); obtain ⟨d1, d2⟩ := HCL.out w5 k6; have q11 : w5.cell? ⟨gv, ov, none⟩ = some v0 := (k6.cell (World.block_lt_of_cell? _ _ q1) (fun h => h) _).trans q1; clear k5 k6))
      all_goals go_wp2
      all_goals
        go_roundw
        case rel => exact ⟨i + 1, by omega, by go_num, HS5.out.1, HS5.out.2⟩
        case measure => first | (simp [intOf]; done) | (simp [intOf]; omega)
    · have hd : decide ((i : Int) < 10) = false := by rw [decide_eq_false_iff_not]; omega
      obtain rfl : i = 10 := by omega
      have hll : (headI T 10).length = 203 := headI_length T 10
      have hor := headI_or T
      have hi2 : InjL (headI T 10) := fun a b h0 he => by
        have h1 := (hor a).resolve_right h0
        have h0b : tg (headI T 10) b ≠ 0 := fun e => h0 (by rw [he]; exact e)
        have h2 := (hor b).resolve_right h0b
        rw [h1, h2] at he
        exact hi a b (by rw [← h1]; exact h0) he
      have hf2 : ∀ k, k < 203 → tg (headI T 10) k ≠ 0 → firstP k < (size + 511) / 512 := fun k hk h0 => by
        have h1 := (hor k).resolve_right h0
        exact hf k hk (by rw [← h1]; exact h0)
      have HMY := Lib.hid (fun w : World => may_any (w := w) hll hi2 size hs hf2 hsort)
      have HBY := Lib.hid (fun (w5 : World) (k5 : Keep (fun _ => False) wr w5) => by
        have h := bytes_any (HI.out.keep0 k5) ((HH.out.keep HK.out hgh).keep k5 (fun h => h)) hs
        rw [bytesL_heads] at h
        exact h)
      have HVR := Lib.hid (fun (w5 : World) (k5 : Keep (fun _ => False) wr w5) => (HV.out.keep HK.out (fun y hy e => by simp [Value.ownBlock] at hy; omega)).keep k5 (fun _ _ h => h))
      have q1 : wr.cell? ⟨p, 1, none⟩ = some (.int .i64 (size : Int)) := by
        have := HI.out.cell 1
        simpa using this
      have q2 : wr.rangeAt p 2 (tabL (headI T 10)) := HI.out.range
      have hu := Tryd.underlying47
      have hinf : (Tryd.prog.info? 47).map (·.size) = some (tabL (headI T 10)).length := by rw [tabL_length, hll]; exact Tryd.infoTab
      have HIE := Lib.hid (fun (w5 : World) (k5 : Keep (fun _ => False) wr w5) => And.intro (HI.out.keep0 k5) (HK.out.trans k5 (fun _ h => h.elim)))
      obtain ⟨U, hU⟩ : ∃ U, U = headI T 10 := ⟨_, rfl⟩
      rw [← hU] at HMY HIE q2 hinf
      have HUU := Lib.hid hU
      clear hor hi2 hf2 hU hll
      go_wp2_with fail
      go_region_held3 (fun w' => w'.cell? ⟨p, 1, none⟩ = some (.int .i64 (size : Int)) ∧ w'.rangeAt p 2 (tabL U)) (go_keep) (first | (go_at_call 8; refine (HBY.out _ ((Keep.refl (fun _ => False) wr).drew)).mono ?_; rintro e w5 ⟨v5, rfl, h5, k5⟩; have H5 := Lib.hid h5; have k6 : Keep (fun _ => False) wr w5 := ((Keep.refl (fun _ => False) wr).drew).trans k5 (fun _ h => h.elim); have K6 := Lib.hid k6; have q11 : w5.cell? ⟨p, 1, none⟩ = some (.int .i64 (size : Int)) := (k6.cell (World.block_lt_of_cell? _ _ q1) (fun h => h) _).trans q1; have q21 : w5.rangeAt p 2 (tabL U) := (fun j v hv => (k6.cell (World.block_lt_of_cell? _ _ (q2 j v hv)) (fun h => h) _).trans (q2 j v hv)); clear k5 k6 h5) | (go_at_call 33; refine (equal_any H5.out (HVR.out w5 K6.out)).mono ?_; rintro e w6 ⟨rfl, k7⟩; have k8 : Keep (fun _ => False) wr w6 := K6.out.trans k7 (fun _ h => h.elim); have K8 := Lib.hid k8; have q12 : w6.cell? ⟨p, 1, none⟩ = some (.int .i64 (size : Int)) := (k8.cell (World.block_lt_of_cell? _ _ q1) (fun h => h) _).trans q1; have q22 : w6.rangeAt p 2 (tabL U) := (fun j v hv => (k8.cell (World.block_lt_of_cell? _ _ (q2 j v hv)) (fun h => h) _).trans (q2 j v hv)); clear k7 k8) | (go_at_call 21; refine (HMY.out _).mono ?_; rintro e w7 ⟨rfl, k9⟩; have k10 : Keep (fun _ => False) wr w7 := K8.out.trans k9 (fun _ h => h.elim); have HE7 := Lib.hid (HIE.out w7 k10); have q13 : w7.cell? ⟨p, 1, none⟩ = some (.int .i64 (size : Int)) := (k10.cell (World.block_lt_of_cell? _ _ q1) (fun h => h) _).trans q1; have q23 : w7.rangeAt p 2 (tabL U) := (fun j v hv => (k10.cell (World.block_lt_of_cell? _ _ (q2 j v hv)) (fun h => h) _).trans (q2 j v hv)); clear k9 k10))
      all_goals go_wp2_with fail
      all_goals go_ret
      all_goals exact ⟨rfl, HUU.out ▸ HE7.out.1, HE7.out.2⟩

end Go.Proofs.YtdkigiemhkoijaaDoor.Ino
