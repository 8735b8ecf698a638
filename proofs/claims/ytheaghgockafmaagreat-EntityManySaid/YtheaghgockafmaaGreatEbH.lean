/- A new world is a world of its tables: the program's May (made by tools/genmay.py). -/
import Derived.Test.YtheaghgockafmaaGreatEbG
import Derived.Deep.CutRange
import Derived.Deep.CutBlock
namespace Go.Proofs.YtheaghgockafmaaGreat.Wd
open Go.RowKit Go.Maps Go.Proofs.YtheaghgockafmaaGreat Go.Proofs.YtheaghgockafmaaGreat.Lin
set_option maxRecDepth 100000

open Go.Sort
/-- What Check takes. -/
structure DOk0 (D : DbM) : Prop where
  rooms : D.rooms.length ≤ 60
  ne : D.rooms ≠ []
  rrise : D.rooms.Pairwise (fun a b => a.id < b.id)
  protos : D.protos.length ≤ 60
  mobs : D.mobs.length ≤ 60
  mrise : D.mobs.Pairwise (fun a b => a.id < b.id)
  shops : D.shops.length ≤ 60
  hp : ∀ m ∈ D.mobs, 1 ≤ m.hp
  home : ∀ m ∈ D.mobs, hasRoom D m.home = true
  till : ∀ s ∈ D.shops, 0 ≤ s.till ∧ s.till ≤ 1073741824
theorem checkF_ok {D : DbM} (h : checkF D = 0) : DOk0 D := by
  unfold checkF at h
  split at h
  · omega
  · rename_i h1
    split at h
    · omega
    · rename_i h2
      simp only [not_or, Classical.not_not] at h1 h2
      obtain ⟨hne, hr, ht, hs⟩ := h1
      refine ⟨hr.2, hne, hr.1.2, ht.2.2.1, ht.2.2.2, ht.2.1.2, hs.2.2.2.2.2, fun m hm => ?_, h2.2.1, fun s hs' => ?_⟩
      · have := ht.2.1.1 m hm
        unfold okMobP inB at this
        simp only [Bool.and_eq_true, decide_eq_true_eq] at this
        omega
      · have := hs.2.2.1.1 s hs'
        unfold okShop inB gMax at this
        simp only [Bool.and_eq_true, decide_eq_true_eq] at this
        omega
theorem findI_rise {L : List MobPM} (h : L.Pairwise (fun a b => a.id < b.id)) {i : Nat} {x : MobPM} (hx : L[i]? = some x) : findI (fun y : MobPM => y.id == x.id) L = (i : Int) := by
  refine findI_at (fun j b hj hb => ?_) hx (by simp)
  obtain ⟨hj2, rfl⟩ := List.getElem?_eq_some_iff.1 hb
  obtain ⟨hi2, rfl⟩ := List.getElem?_eq_some_iff.1 hx
  have := List.pairwise_iff_getElem.1 h j i hj2 hi2 hj
  rw [beq_eq_false_iff_ne]
  omega
theorem tillSum_shops (L : List ShopM) : tillSum (tillsL L) = sumT L := by
  unfold tillSum tillsL sumT
  rw [List.map_map]
  rfl

set_option maxHeartbeats 16000000 in
theorem mayNew_any {P N : Nat → Prop} {w : World} {d q : Nat} {D : DbM} (h : DbAt P w d 0 D) (hz : SzD D) (hc : checkF D = 0) (hw : WAt N w q (newF D)) :
    Calls Tryz.prog 24 #[.pointer (some ⟨q, 0, none⟩), .pointer (some ⟨d, 0, none⟩)] w fun e w' => e = .returned (.bool true) ∧ Keep (fun _ => False) w w' := by
  have hk := checkF_ok hc
  obtain ⟨a3, c3, cr, q3, -⟩ := hw.chars
  obtain ⟨a4, c4, q4, -⟩ := hw.things
  obtain ⟨a5, c5, q5, r5, -, -⟩ := hw.mobs
  obtain ⟨a6, c6, hr6, q6, -⟩ := hw.houses
  obtain ⟨a7, c7, q7, -⟩ := hw.lots
  obtain ⟨a8, c8, q8, r8, -, -⟩ := hw.tills
  have q2 : w.cell? ⟨q, 2, none⟩ = some (.int .i64 (sumT D.shops)) := by
    obtain ⟨v1, v2, v3, v4, v5, v6, cr, hr, hw⟩ := hw
    exact (cell_of_row w q 2 _ _ _ hw.blk).trans rfl
  rw [show (newF D).chars.length = 0 from rfl] at q3
  rw [show (newF D).things.length = 0 from rfl] at q4
  rw [show (newF D).mobs.length = D.mobs.length from mobsL_len _] at q5 r5
  rw [show (newF D).houses.length = 0 from rfl] at q6
  rw [show (newF D).lots.length = 0 from rfl] at q7
  rw [show (newF D).tills.length = D.shops.length from tillsL_len _] at q8 r8
  obtain ⟨dv1, dv2, dv3, dv4, dv5, dv6, rr, ss, hd, hr, hr1, _, _, _, _, ⟨hr6', hs6, hi6⟩, _⟩ := h.ex
  obtain ⟨r1, s1, rfl, -, -⟩ := hr1.slice
  obtain ⟨r6, s6, rfl, -, -⟩ := hr6'.slice
  have hsl : ss.length = D.shops.length := by rw [← hs6, List.length_map]
  rw [hsl] at hr6' hr
  obtain ⟨w2, hw2⟩ : ∃ w2, w2 = (w.alloc (.cells #[.pointer (some ⟨q, 0, none⟩)] 24)).alloc (.cells #[.pointer (some ⟨d, 0, none⟩)] 34) := ⟨_, rfl⟩
  have kw : Keep (fun _ => False) w w2 := by rw [hw2]; exact ((Keep.refl _ w).alloc _).alloc _
  have b1c : w2.cell? ⟨w.heap.size, 0, none⟩ = some (.pointer (some ⟨q, 0, none⟩)) := by
    rw [hw2, ((Keep.refl (fun _ => False) (w.alloc (.cells #[.pointer (some ⟨q, 0, none⟩)] 24))).alloc _).cell (by simp) (fun e => e), cell_of_row _ _ _ _ _ _ (heap_alloc_new w _)]; rfl
  have b2c : w2.cell? ⟨w.heap.size + 1, 0, none⟩ = some (.pointer (some ⟨d, 0, none⟩)) := by
    have h1 := heap_alloc_new (w.alloc (.cells #[.pointer (some ⟨q, 0, none⟩)] 24)) (.cells #[.pointer (some ⟨d, 0, none⟩)] 34)
    rw [show (w.alloc (.cells #[.pointer (some ⟨q, 0, none⟩)] 24)).heap.size = w.heap.size + 1 by simp] at h1
    rw [hw2, cell_of_row _ _ _ _ _ _ h1]; rfl
  have HBC := Lib.hid (And.intro b1c b2c)
  have KW := Lib.hid kw
  have HQQ : Hid (∀ w9, Keep (fun _ => False) w w9 → w9.cell? ⟨q, 3, none⟩ = some (.slice a3 0 c3) ∧ w9.cell? ⟨q, 4, none⟩ = some (.slice a4 0 c4) ∧ w9.cell? ⟨q, 5, none⟩ = some (.slice a5 D.mobs.length c5) ∧ w9.cell? ⟨q, 6, none⟩ = some (.slice a6 0 c6) ∧ w9.cell? ⟨q, 7, none⟩ = some (.slice a7 0 c7) ∧ w9.cell? ⟨q, 8, none⟩ = some (.slice a8 D.shops.length c8) ∧ w9.cell? ⟨q, 2, none⟩ = some (.int .i64 (sumT D.shops)) ∧ w9.cell? ⟨d, 0, none⟩ = some (.slice r1 D.rooms.length s1) ∧ w9.cell? ⟨d, 5, none⟩ = some (.slice r6 D.shops.length s6)) := Lib.hid (fun w9 k => by
    have c := fun j => k.cell (World.block_lt_of_cell? _ _ q3) (fun e => e) j
    have c' := fun j => k.cell hd (fun e => e) j
    exact ⟨(c _).trans q3, (c _).trans q4, (c _).trans q5, (c _).trans q6, (c _).trans q7, (c _).trans q8, (c _).trans q2, (c' _).trans (by simpa using hr 0 _ rfl), (c' _).trans (by simpa using hr 5 _ rfl)⟩)
  have C1 : Hid (∀ w9, Keep (fun _ => False) w2.drew w9 → Calls Tryz.prog 55 #[.pointer (some ⟨d, 0, none⟩)] w9 fun e w' => e = .returned .nilIface ∧ Keep (fun _ => False) w9 w') := Lib.hid (fun w9 k => (check_any ((h.keepN kw.drew).keepN k) hz).mono fun e w' hh => ⟨by rw [hh.1, hc]; rfl, hh.2⟩)
  have HW9 : Hid (∀ w9, Keep (fun _ => False) w2.drew w9 → WAt N w9 q (newF D)) := Lib.hid (fun w9 k => (hw.keep kw.drew (fun _ _ e => e)).keep k (fun _ _ e => e))
  have C2 : Hid (∀ w9, Keep (fun _ => False) w2.drew w9 → Calls Tryz.prog 57 #[.pointer (some ⟨q, 0, none⟩)] w9 fun e w' => e = .returned (.bool true) ∧ Keep (fun _ => False) w9 w') := Lib.hid (fun w9 k => (hasBounds_any (HW9.out w9 k) rfl (by show (1 : Int) ≤ (D.mobs.length : Int) + 1; omega) (by show (D.mobs.length : Int) + 1 ≤ 1000; have := hk.mobs; omega) rfl rfl rfl).mono fun e w' hh => ⟨hh.1, hh.2 ▸ Keep.refl _ _⟩)
  have C3 : Hid (∀ w9, Keep (fun _ => False) w2.drew w9 → Calls Tryz.prog 58 #[.pointer (some ⟨q, 0, none⟩)] w9 fun e w' => e = .returned (.bool true) ∧ Keep (fun _ => False) w9 w') := Lib.hid (fun w9 k => hasOrder_any (HW9.out w9 k) rfl rfl rfl rfl rfl hk.mobs)
  have C4 : Hid (∀ w9, Keep (fun _ => False) w2.drew w9 → Calls Tryz.prog 59 #[.pointer (some ⟨q, 0, none⟩)] w9 fun e w' => e = .returned (.bool true) ∧ Keep (fun _ => False) w9 w') := Lib.hid (fun w9 k => hasNumbers_any (HW9.out w9 k) rfl rfl rfl rfl hk.mobs)
  have HBD : Hid (∀ w9, Keep (fun _ => False) w2.drew w9 → w9.cell? ⟨w.heap.size, 0, none⟩ = some (.pointer (some ⟨q, 0, none⟩)) ∧ w9.cell? ⟨w.heap.size + 1, 0, none⟩ = some (.pointer (some ⟨d, 0, none⟩))) := Lib.hid (fun w9 k => ⟨(k.cell (cell_lt (w := w2.drew) b1c) (fun e => e) _).trans b1c, (k.cell (cell_lt (w := w2.drew) b2c) (fun e => e) _).trans b2c⟩)
  have C7 : Hid (∀ w9, Keep (fun _ => False) w2.drew w9 → Calls Tryz.prog 66 #[.slice a5 D.mobs.length c5, .func (.func 67) #[] #[.pointer (some ⟨w.heap.size + 1, 0, none⟩)]] w9 fun e w' => e = .returned (.bool true) ∧ Keep (fun _ => False) w9 w') := Lib.hid (fun w9 k => by
    have hrow := r5.keep ((kw.drew).trans k (fun _ e => e.elim)) (fun _ _ e => e)
    have := allMoE_any (w := w9) (L := mobsL D.mobs) (v := .slice a5 D.mobs.length c5) hrow.row.seen (fun _ => true) (lb := #[.pointer (some ⟨w.heap.size + 1, 0, none⟩)]) Tryz.en_mobC (fun x hx w8 k8 => mobC_any (HBD.out w8 (k.trans k8 (fun _ e => e.elim))).2 (fun w7 k7 => by
      obtain ⟨i, hi, rfl⟩ := List.mem_iff_getElem.1 hx
      rw [mobsL_len] at hi
      have hxe : (mobsL D.mobs)[i]'(by rw [mobsL_len]; exact hi) = ⟨(i : Int) + 1, D.mobs[i].id, D.mobs[i].home, D.mobs[i].hp⟩ := by simp [mobsL]
      rw [hxe]
      have hxi : D.mobs[i]? = some D.mobs[i] := List.getElem?_eq_getElem hi
      exact isMobE_any ((((h.keepN kw.drew).keepN k).keepN k8).keepN k7) hxi (findI_rise hk.mrise hxi) (hk.home _ (List.mem_of_getElem? hxi)) (hk.hp _ (List.mem_of_getElem? hxi))))
    rwa [show (mobsL D.mobs).all (fun _ => true) = true by simp] at this)
  have C10 : Hid (∀ w9, Keep (fun _ => False) w2.drew w9 → Calls Tryz.prog 75 #[.slice r1 D.rooms.length s1, .func (.func 76) #[] #[.pointer (some ⟨w.heap.size, 0, none⟩)]] w9 fun e w' => e = .returned (.bool true) ∧ Keep (fun _ => False) w9 w') := Lib.hid (fun w9 k => by
    have hrow := hr1.keep ((kw.drew).trans k (fun _ e => e.elim)) (fun _ _ e => e)
    have := allRoE_any (w := w9) (L := D.rooms) hrow.row.seen (fun _ => true) (lb := #[.pointer (some ⟨w.heap.size, 0, none⟩)]) Tryz.en_roomC6 (fun x hx w8 k8 => roomC6_any (HBD.out w8 (k.trans k8 (fun _ e => e.elim))).1 (HQQ.out w8 (((kw.drew).trans k (fun _ e => e.elim)).trans k8 (fun _ e => e.elim))).2.1 x)
    rwa [show D.rooms.all (fun _ => true) = true by simp] at this)
  have C11 : Hid (∀ w9, Keep (fun _ => False) w2.drew w9 → Calls Tryz.prog 78 #[.slice a8 D.shops.length c8, .slice r6 D.shops.length s6, .func (.func 79) #[] #[]] w9 fun e w' => e = .returned (.bool true) ∧ Keep (fun _ => False) w9 w') := Lib.hid (fun w9 k => by
    have k2 := (kw.drew).trans k (fun _ e => e.elim)
    exact equalT_any (r8.keep k2 (fun _ _ e => e)) (hr6'.keep k2 (fun _ _ e => e)) hs6 (fun x hx => by
      obtain ⟨_, a, c, e, _⟩ := (hi6 x hx).1
      exact ⟨a, c, e⟩) (fun x hx => by have := hk.till x hx; omega) (by have := hk.shops; omega))
  have C12 : Hid (∀ w9, Keep (fun _ => False) w2.drew w9 → Calls Tryz.prog 56 #[.pointer (some ⟨q, 0, none⟩)] w9 fun e w' => e = .returned (.int .i64 (sumT D.shops)) ∧ Keep (fun _ => False) w9 w') := Lib.hid (fun w9 k => by
    have := total_any (HW9.out w9 k) rfl rfl rfl (by show (tillsL D.shops).length ≤ 1000; rw [tillsL_len]; have := hk.shops; omega) (fun t ht => by
      obtain ⟨s, hs, rfl⟩ := List.mem_map.1 ht
      have := hk.till s hs
      show 0 ≤ s.till ∧ s.till ≤ 1099511627776
      omega)
    rwa [show tillSum (newF D).tills = sumT D.shops from tillSum_shops _] at this)
  obtain ⟨q3', q4', q5', q6', q7', q8', q2', d0', d5'⟩ := HQQ.out _ kw.drew
  have HWE := Lib.hid hw2.symm
  clear h hz hc hw hk q3 q4 q5 q6 q7 q8 q2 r5 r8 hd hr hr1 hr6' hs6 hi6 hsl hw2 kw b1c b2c HW9 HQQ
  go_enter Tryz.func24, Tryz.ntmps24
  go_upto_region 1 with (fail)
  rw [HWE.out]
  obtain ⟨b1c, b2c⟩ := HBC.out
  generalize w.heap.size = b1 at *
  generalize b1 + 1 = b2 at *
  have HS1 : Hid ((fun w9 : World => w9.cell? ⟨b1, 0, none⟩ = some (.pointer (some ⟨q, 0, none⟩)) ∧ w9.cell? ⟨b2, 0, none⟩ = some (.pointer (some ⟨d, 0, none⟩)) ∧ w9.cell? ⟨q, 3, none⟩ = some (.slice a3 0 c3) ∧ w9.cell? ⟨q, 4, none⟩ = some (.slice a4 0 c4) ∧ w9.cell? ⟨q, 5, none⟩ = some (.slice a5 D.mobs.length c5) ∧ w9.cell? ⟨q, 6, none⟩ = some (.slice a6 0 c6) ∧ w9.cell? ⟨q, 7, none⟩ = some (.slice a7 0 c7) ∧ w9.cell? ⟨q, 8, none⟩ = some (.slice a8 D.shops.length c8) ∧ w9.cell? ⟨q, 2, none⟩ = some (.int .i64 (sumT D.shops)) ∧ w9.cell? ⟨d, 0, none⟩ = some (.slice r1 D.rooms.length s1) ∧ w9.cell? ⟨d, 5, none⟩ = some (.slice r6 D.shops.length s6)) w2.drew) := Lib.hid ⟨b1c, b2c, q3', q4', q5', q6', q7', q8', q2', d0', d5'⟩
  have HG1 : Hid (∀ w9 : World, Keep (fun _ => False) w2.drew w9 → (fun w9 : World => w9.cell? ⟨b1, 0, none⟩ = some (.pointer (some ⟨q, 0, none⟩)) ∧ w9.cell? ⟨b2, 0, none⟩ = some (.pointer (some ⟨d, 0, none⟩)) ∧ w9.cell? ⟨q, 3, none⟩ = some (.slice a3 0 c3) ∧ w9.cell? ⟨q, 4, none⟩ = some (.slice a4 0 c4) ∧ w9.cell? ⟨q, 5, none⟩ = some (.slice a5 D.mobs.length c5) ∧ w9.cell? ⟨q, 6, none⟩ = some (.slice a6 0 c6) ∧ w9.cell? ⟨q, 7, none⟩ = some (.slice a7 0 c7) ∧ w9.cell? ⟨q, 8, none⟩ = some (.slice a8 D.shops.length c8) ∧ w9.cell? ⟨q, 2, none⟩ = some (.int .i64 (sumT D.shops)) ∧ w9.cell? ⟨d, 0, none⟩ = some (.slice r1 D.rooms.length s1) ∧ w9.cell? ⟨d, 5, none⟩ = some (.slice r6 D.shops.length s6)) w9) := Lib.hid (fun w9 k9 => by
    have hS9 := HS1.out
    obtain ⟨z0, z1, z2, z3, z4, z5, z6, z7, z8, z9, z10⟩ := hS9
    exact ⟨(k9.cell (World.block_lt_of_cell? _ _ z0) (fun h => h) _).trans z0, (k9.cell (World.block_lt_of_cell? _ _ z1) (fun h => h) _).trans z1, (k9.cell (World.block_lt_of_cell? _ _ z2) (fun h => h) _).trans z2, (k9.cell (World.block_lt_of_cell? _ _ z3) (fun h => h) _).trans z3, (k9.cell (World.block_lt_of_cell? _ _ z4) (fun h => h) _).trans z4, (k9.cell (World.block_lt_of_cell? _ _ z5) (fun h => h) _).trans z5, (k9.cell (World.block_lt_of_cell? _ _ z6) (fun h => h) _).trans z6, (k9.cell (World.block_lt_of_cell? _ _ z7) (fun h => h) _).trans z7, (k9.cell (World.block_lt_of_cell? _ _ z8) (fun h => h) _).trans z8, (k9.cell (World.block_lt_of_cell? _ _ z9) (fun h => h) _).trans z9, (k9.cell (World.block_lt_of_cell? _ _ z10) (fun h => h) _).trans z10⟩)
  have KC0 : Hid (Keep (fun _ => False) w2.drew w2.drew) := Lib.hid (Keep.refl _ _)
  have KD : Hid (Keep (fun _ => False) w w2.drew) := Lib.hid KW.out.drew
  clear b1c b2c q3' q4' q5' q6' q7' q8' q2' d0' d5' HBC HWE KW HBD
  refine Cd.wp_region_z (fun w9 : World => w9.cell? ⟨b1, 0, none⟩ = some (.pointer (some ⟨q, 0, none⟩)) ∧ w9.cell? ⟨b2, 0, none⟩ = some (.pointer (some ⟨d, 0, none⟩)) ∧ w9.cell? ⟨q, 3, none⟩ = some (.slice a3 0 c3) ∧ w9.cell? ⟨q, 4, none⟩ = some (.slice a4 0 c4) ∧ w9.cell? ⟨q, 5, none⟩ = some (.slice a5 D.mobs.length c5) ∧ w9.cell? ⟨q, 6, none⟩ = some (.slice a6 0 c6) ∧ w9.cell? ⟨q, 7, none⟩ = some (.slice a7 0 c7) ∧ w9.cell? ⟨q, 8, none⟩ = some (.slice a8 D.shops.length c8) ∧ w9.cell? ⟨q, 2, none⟩ = some (.int .i64 (sumT D.shops)) ∧ w9.cell? ⟨d, 0, none⟩ = some (.slice r1 D.rooms.length s1) ∧ w9.cell? ⟨d, 5, none⟩ = some (.slice r6 D.shops.length s6)) [] (by kernel_rfl) ?_
  generalize w2.drew = w0 at *
  refine Cd.wpAnyZ_loadD (i := 0) (d := 5) (v := ?_) rfl rfl (by kernel_rfl) (by kernel_rfl) (by kernel_rfl) (by kernel_rfl) (fun _ _ _ h => h) HS1.out (by rfl) ?_ ?_
  rotate_left 1
  · (intro w9 hS9; obtain ⟨z0, z1, z2, z3, z4, z5, z6, z7, z8, z9, z10⟩ := hS9; go_simp <;> with_reducible rfl)
  simp only [Act.put, List.setIfInBounds_toArray, List.set_cons_succ, List.set_cons_zero]
  refine Cd.wpAnyZ_takeD (i := 1) (d := 6) (v := ?_) rfl rfl (by kernel_rfl) (by kernel_rfl) (by kernel_rfl) (fun _ _ _ h => h) (by rfl) ?_ ?_
  rotate_left 1
  · (intro w9; go_simp <;> with_reducible rfl)
  simp only [Act.put, List.setIfInBounds_toArray, List.set_cons_succ, List.set_cons_zero]
  refine Cd.wpAnyZ_takeD (i := 2) (d := 7) (v := ?_) rfl rfl (by kernel_rfl) (by kernel_rfl) (by kernel_rfl) (fun _ _ _ h => h) (by rfl) ?_ ?_
  rotate_left 1
  · (intro w9; go_simp <;> with_reducible rfl)
  simp only [Act.put, List.setIfInBounds_toArray, List.set_cons_succ, List.set_cons_zero]
  refine Cd.wpAnyZ_loadD (i := 3) (d := 8) (v := ?_) rfl rfl (by kernel_rfl) (by kernel_rfl) (by kernel_rfl) (by kernel_rfl) (fun _ _ _ h => h) HS1.out (by rfl) ?_ ?_
  rotate_left 1
  · (intro w9 hS9; obtain ⟨z0, z1, z2, z3, z4, z5, z6, z7, z8, z9, z10⟩ := hS9; go_simp <;> with_reducible rfl)
  simp only [Act.put, List.setIfInBounds_toArray, List.set_cons_succ, List.set_cons_zero]
  refine Cd.wpAnyZ_one (i := 4) rfl (by kernel_rfl) (by rfl) ?_
  intro K9 hK9
  go_simp
  go_at_call 55
  (with_reducible refine (C1.out _ KC0.out).mono ?_)
  rintro e w1 ⟨rfl, k9⟩
  have KC1 := Lib.hid (KC0.out.trans k9 (fun _ h => h.elim))
  clear k9
  have HSQ1 : Hid ((fun w9 : World => w9.cell? ⟨b1, 0, none⟩ = some (.pointer (some ⟨q, 0, none⟩)) ∧ w9.cell? ⟨b2, 0, none⟩ = some (.pointer (some ⟨d, 0, none⟩)) ∧ w9.cell? ⟨q, 3, none⟩ = some (.slice a3 0 c3) ∧ w9.cell? ⟨q, 4, none⟩ = some (.slice a4 0 c4) ∧ w9.cell? ⟨q, 5, none⟩ = some (.slice a5 D.mobs.length c5) ∧ w9.cell? ⟨q, 6, none⟩ = some (.slice a6 0 c6) ∧ w9.cell? ⟨q, 7, none⟩ = some (.slice a7 0 c7) ∧ w9.cell? ⟨q, 8, none⟩ = some (.slice a8 D.shops.length c8) ∧ w9.cell? ⟨q, 2, none⟩ = some (.int .i64 (sumT D.shops)) ∧ w9.cell? ⟨d, 0, none⟩ = some (.slice r1 D.rooms.length s1) ∧ w9.cell? ⟨d, 5, none⟩ = some (.slice r6 D.shops.length s6)) w1) := Lib.hid (HG1.out _ KC1.out)
  refine hK9.out _ _ (fun _ _ => HSQ1.out) ?_
  clear hK9 K9
  refine Cd.wpAnyZ_takeD (i := 5) (d := 10) (v := ?_) rfl rfl (by kernel_rfl) (by kernel_rfl) (by kernel_rfl) (fun _ _ _ h => h) (by rfl) ?_ ?_
  rotate_left 1
  · (intro w9; go_simp <;> with_reducible rfl)
  simp only [Act.put, List.setIfInBounds_toArray, List.set_cons_succ, List.set_cons_zero]
  refine Cd.wpAnyZ_takeD (i := 6) (d := 11) (v := ?_) rfl rfl (by kernel_rfl) (by kernel_rfl) (by kernel_rfl) (fun _ _ _ h => h) (by rfl) ?_ ?_
  rotate_left 1
  · (intro w9; go_simp <;> with_reducible rfl)
  simp only [Act.put, List.setIfInBounds_toArray, List.set_cons_succ, List.set_cons_zero]
  refine Cd.wpAnyZ_takeD (i := 7) (d := 12) (v := ?_) rfl rfl (by kernel_rfl) (by kernel_rfl) (by kernel_rfl) (fun _ _ _ h => h) (by rfl) ?_ ?_
  rotate_left 1
  · (intro w9; go_simp <;> with_reducible rfl)
  simp only [Act.put, List.setIfInBounds_toArray, List.set_cons_succ, List.set_cons_zero]
  refine Cd.wpAnyZ_loadD (i := 8) (d := 13) (v := ?_) rfl rfl (by kernel_rfl) (by kernel_rfl) (by kernel_rfl) (by kernel_rfl) (fun _ _ _ h => h) HSQ1.out (by rfl) ?_ ?_
  rotate_left 1
  · (intro w9 hS9; obtain ⟨z0, z1, z2, z3, z4, z5, z6, z7, z8, z9, z10⟩ := hS9; go_simp <;> with_reducible rfl)
  simp only [Act.put, List.setIfInBounds_toArray, List.set_cons_succ, List.set_cons_zero]
  refine Cd.wpAnyZ_one (i := 9) rfl (by kernel_rfl) (by rfl) ?_
  intro K9 hK9
  go_simp
  go_at_call 57
  (with_reducible refine (C2.out _ KC1.out).mono ?_)
  rintro e w2 ⟨rfl, k9⟩
  have KC2 := Lib.hid (KC1.out.trans k9 (fun _ h => h.elim))
  clear k9
  have HSQ2 : Hid ((fun w9 : World => w9.cell? ⟨b1, 0, none⟩ = some (.pointer (some ⟨q, 0, none⟩)) ∧ w9.cell? ⟨b2, 0, none⟩ = some (.pointer (some ⟨d, 0, none⟩)) ∧ w9.cell? ⟨q, 3, none⟩ = some (.slice a3 0 c3) ∧ w9.cell? ⟨q, 4, none⟩ = some (.slice a4 0 c4) ∧ w9.cell? ⟨q, 5, none⟩ = some (.slice a5 D.mobs.length c5) ∧ w9.cell? ⟨q, 6, none⟩ = some (.slice a6 0 c6) ∧ w9.cell? ⟨q, 7, none⟩ = some (.slice a7 0 c7) ∧ w9.cell? ⟨q, 8, none⟩ = some (.slice a8 D.shops.length c8) ∧ w9.cell? ⟨q, 2, none⟩ = some (.int .i64 (sumT D.shops)) ∧ w9.cell? ⟨d, 0, none⟩ = some (.slice r1 D.rooms.length s1) ∧ w9.cell? ⟨d, 5, none⟩ = some (.slice r6 D.shops.length s6)) w2) := Lib.hid (HG1.out _ KC2.out)
  refine hK9.out _ _ (fun _ _ => HSQ2.out) ?_
  clear hK9 K9
  refine Cd.wpAnyZ_takeD (i := 10) (d := 15) (v := ?_) rfl rfl (by kernel_rfl) (by kernel_rfl) (by kernel_rfl) (fun _ _ _ h => h) (by rfl) ?_ ?_
  rotate_left 1
  · (intro w9; go_simp <;> with_reducible rfl)
  simp only [Act.put, List.setIfInBounds_toArray, List.set_cons_succ, List.set_cons_zero]
  refine Cd.wpAnyZ_takeD (i := 11) (d := 16) (v := ?_) rfl rfl (by kernel_rfl) (by kernel_rfl) (by kernel_rfl) (fun _ _ _ h => h) (by rfl) ?_ ?_
  rotate_left 1
  · (intro w9; go_simp <;> with_reducible rfl)
  simp only [Act.put, List.setIfInBounds_toArray, List.set_cons_succ, List.set_cons_zero]
  refine Cd.wpAnyZ_loadD (i := 12) (d := 17) (v := ?_) rfl rfl (by kernel_rfl) (by kernel_rfl) (by kernel_rfl) (by kernel_rfl) (fun _ _ _ h => h) HSQ2.out (by rfl) ?_ ?_
  rotate_left 1
  · (intro w9 hS9; obtain ⟨z0, z1, z2, z3, z4, z5, z6, z7, z8, z9, z10⟩ := hS9; go_simp <;> with_reducible rfl)
  simp only [Act.put, List.setIfInBounds_toArray, List.set_cons_succ, List.set_cons_zero]
  refine Cd.wpAnyZ_one (i := 13) rfl (by kernel_rfl) (by rfl) ?_
  intro K9 hK9
  go_simp
  go_at_call 58
  (with_reducible refine (C3.out _ KC2.out).mono ?_)
  rintro e w3 ⟨rfl, k9⟩
  have KC3 := Lib.hid (KC2.out.trans k9 (fun _ h => h.elim))
  clear k9
  have HSQ3 : Hid ((fun w9 : World => w9.cell? ⟨b1, 0, none⟩ = some (.pointer (some ⟨q, 0, none⟩)) ∧ w9.cell? ⟨b2, 0, none⟩ = some (.pointer (some ⟨d, 0, none⟩)) ∧ w9.cell? ⟨q, 3, none⟩ = some (.slice a3 0 c3) ∧ w9.cell? ⟨q, 4, none⟩ = some (.slice a4 0 c4) ∧ w9.cell? ⟨q, 5, none⟩ = some (.slice a5 D.mobs.length c5) ∧ w9.cell? ⟨q, 6, none⟩ = some (.slice a6 0 c6) ∧ w9.cell? ⟨q, 7, none⟩ = some (.slice a7 0 c7) ∧ w9.cell? ⟨q, 8, none⟩ = some (.slice a8 D.shops.length c8) ∧ w9.cell? ⟨q, 2, none⟩ = some (.int .i64 (sumT D.shops)) ∧ w9.cell? ⟨d, 0, none⟩ = some (.slice r1 D.rooms.length s1) ∧ w9.cell? ⟨d, 5, none⟩ = some (.slice r6 D.shops.length s6)) w3) := Lib.hid (HG1.out _ KC3.out)
  refine hK9.out _ _ (fun _ _ => HSQ3.out) ?_
  clear hK9 K9
  refine Cd.wpAnyZ_takeD (i := 14) (d := 19) (v := ?_) rfl rfl (by kernel_rfl) (by kernel_rfl) (by kernel_rfl) (fun _ _ _ h => h) (by rfl) ?_ ?_
  rotate_left 1
  · (intro w9; go_simp <;> with_reducible rfl)
  simp only [Act.put, List.setIfInBounds_toArray, List.set_cons_succ, List.set_cons_zero]
  refine Cd.wpAnyZ_takeD (i := 15) (d := 20) (v := ?_) rfl rfl (by kernel_rfl) (by kernel_rfl) (by kernel_rfl) (fun _ _ _ h => h) (by rfl) ?_ ?_
  rotate_left 1
  · (intro w9; go_simp <;> with_reducible rfl)
  simp only [Act.put, List.setIfInBounds_toArray, List.set_cons_succ, List.set_cons_zero]
  refine Cd.wpAnyZ_loadD (i := 16) (d := 21) (v := ?_) rfl rfl (by kernel_rfl) (by kernel_rfl) (by kernel_rfl) (by kernel_rfl) (fun _ _ _ h => h) HSQ3.out (by rfl) ?_ ?_
  rotate_left 1
  · (intro w9 hS9; obtain ⟨z0, z1, z2, z3, z4, z5, z6, z7, z8, z9, z10⟩ := hS9; go_simp <;> with_reducible rfl)
  simp only [Act.put, List.setIfInBounds_toArray, List.set_cons_succ, List.set_cons_zero]
  refine Cd.wpAnyZ_one (i := 17) rfl (by kernel_rfl) (by rfl) ?_
  intro K9 hK9
  go_simp
  go_at_call 59
  (with_reducible refine (C4.out _ KC3.out).mono ?_)
  rintro e w4 ⟨rfl, k9⟩
  have KC4 := Lib.hid (KC3.out.trans k9 (fun _ h => h.elim))
  clear k9
  have HSQ4 : Hid ((fun w9 : World => w9.cell? ⟨b1, 0, none⟩ = some (.pointer (some ⟨q, 0, none⟩)) ∧ w9.cell? ⟨b2, 0, none⟩ = some (.pointer (some ⟨d, 0, none⟩)) ∧ w9.cell? ⟨q, 3, none⟩ = some (.slice a3 0 c3) ∧ w9.cell? ⟨q, 4, none⟩ = some (.slice a4 0 c4) ∧ w9.cell? ⟨q, 5, none⟩ = some (.slice a5 D.mobs.length c5) ∧ w9.cell? ⟨q, 6, none⟩ = some (.slice a6 0 c6) ∧ w9.cell? ⟨q, 7, none⟩ = some (.slice a7 0 c7) ∧ w9.cell? ⟨q, 8, none⟩ = some (.slice a8 D.shops.length c8) ∧ w9.cell? ⟨q, 2, none⟩ = some (.int .i64 (sumT D.shops)) ∧ w9.cell? ⟨d, 0, none⟩ = some (.slice r1 D.rooms.length s1) ∧ w9.cell? ⟨d, 5, none⟩ = some (.slice r6 D.shops.length s6)) w4) := Lib.hid (HG1.out _ KC4.out)
  refine hK9.out _ _ (fun _ _ => HSQ4.out) ?_
  clear hK9 K9
  refine Cd.wpAnyZ_takeD (i := 18) (d := 23) (v := ?_) rfl rfl (by kernel_rfl) (by kernel_rfl) (by kernel_rfl) (fun _ _ _ h => h) (by rfl) ?_ ?_
  rotate_left 1
  · (intro w9; go_simp <;> with_reducible rfl)
  simp only [Act.put, List.setIfInBounds_toArray, List.set_cons_succ, List.set_cons_zero]
  refine Cd.wpAnyZ_takeD (i := 19) (d := 24) (v := ?_) rfl rfl (by kernel_rfl) (by kernel_rfl) (by kernel_rfl) (fun _ _ _ h => h) (by rfl) ?_ ?_
  rotate_left 1
  · (intro w9; go_simp <;> with_reducible rfl)
  simp only [Act.put, List.setIfInBounds_toArray, List.set_cons_succ, List.set_cons_zero]
  refine Cd.wpAnyZ_loadD (i := 20) (d := 25) (v := ?_) rfl rfl (by kernel_rfl) (by kernel_rfl) (by kernel_rfl) (by kernel_rfl) (fun _ _ _ h => h) HSQ4.out (by rfl) ?_ ?_
  rotate_left 1
  · (intro w9 hS9; obtain ⟨z0, z1, z2, z3, z4, z5, z6, z7, z8, z9, z10⟩ := hS9; go_simp <;> with_reducible rfl)
  simp only [Act.put, List.setIfInBounds_toArray, List.set_cons_succ, List.set_cons_zero]
  refine Cd.wpAnyZ_takeD (i := 21) (d := 26) (v := ?_) rfl rfl (by kernel_rfl) (by kernel_rfl) (by kernel_rfl) (fun _ _ _ h => h) (by rfl) ?_ ?_
  rotate_left 1
  · (intro w9; go_simp <;> with_reducible rfl)
  simp only [Act.put, List.setIfInBounds_toArray, List.set_cons_succ, List.set_cons_zero]
  refine Cd.wpAnyZ_takeD (i := 22) (d := 27) (v := ?_) rfl rfl (by kernel_rfl) (by kernel_rfl) (by kernel_rfl) (fun _ _ _ h => h) (by rfl) ?_ ?_
  rotate_left 1
  · (intro w9; go_simp <;> with_reducible rfl)
  simp only [Act.put, List.setIfInBounds_toArray, List.set_cons_succ, List.set_cons_zero]
  refine Cd.wpAnyZ_loadD (i := 23) (d := 28) (v := ?_) rfl rfl (by kernel_rfl) (by kernel_rfl) (by kernel_rfl) (by kernel_rfl) (fun _ _ _ h => h) HSQ4.out (by rfl) ?_ ?_
  rotate_left 1
  · (intro w9 hS9; obtain ⟨z0, z1, z2, z3, z4, z5, z6, z7, z8, z9, z10⟩ := hS9; go_simp <;> with_reducible rfl)
  simp only [Act.put, List.setIfInBounds_toArray, List.set_cons_succ, List.set_cons_zero]
  refine Cd.wpAnyZ_takeD (i := 24) (d := 29) (v := ?_) rfl rfl (by kernel_rfl) (by kernel_rfl) (by kernel_rfl) (fun _ _ _ h => h) (by rfl) ?_ ?_
  rotate_left 1
  · (intro w9; go_simp <;> with_reducible rfl)
  simp only [Act.put, List.setIfInBounds_toArray, List.set_cons_succ, List.set_cons_zero]
  refine Cd.wpAnyZ_one (i := 25) rfl (by kernel_rfl) (by rfl) ?_
  intro K9 hK9
  go_simp
  go_at_call 60
  (with_reducible refine allNilChar_any.mono ?_)
  rintro e w5 ⟨rfl, k9⟩
  have KC5 := Lib.hid (KC4.out.trans k9 (fun _ h => h.elim))
  clear k9
  have HSQ5 : Hid ((fun w9 : World => w9.cell? ⟨b1, 0, none⟩ = some (.pointer (some ⟨q, 0, none⟩)) ∧ w9.cell? ⟨b2, 0, none⟩ = some (.pointer (some ⟨d, 0, none⟩)) ∧ w9.cell? ⟨q, 3, none⟩ = some (.slice a3 0 c3) ∧ w9.cell? ⟨q, 4, none⟩ = some (.slice a4 0 c4) ∧ w9.cell? ⟨q, 5, none⟩ = some (.slice a5 D.mobs.length c5) ∧ w9.cell? ⟨q, 6, none⟩ = some (.slice a6 0 c6) ∧ w9.cell? ⟨q, 7, none⟩ = some (.slice a7 0 c7) ∧ w9.cell? ⟨q, 8, none⟩ = some (.slice a8 D.shops.length c8) ∧ w9.cell? ⟨q, 2, none⟩ = some (.int .i64 (sumT D.shops)) ∧ w9.cell? ⟨d, 0, none⟩ = some (.slice r1 D.rooms.length s1) ∧ w9.cell? ⟨d, 5, none⟩ = some (.slice r6 D.shops.length s6)) w5) := Lib.hid (HG1.out _ KC5.out)
  refine hK9.out _ _ (fun _ _ => HSQ5.out) ?_
  clear hK9 K9
  refine Cd.wpAnyZ_takeD (i := 26) (d := 31) (v := ?_) rfl rfl (by kernel_rfl) (by kernel_rfl) (by kernel_rfl) (fun _ _ _ h => h) (by rfl) ?_ ?_
  rotate_left 1
  · (intro w9; go_simp <;> with_reducible rfl)
  simp only [Act.put, List.setIfInBounds_toArray, List.set_cons_succ, List.set_cons_zero]
  refine Cd.wpAnyZ_takeD (i := 27) (d := 32) (v := ?_) rfl rfl (by kernel_rfl) (by kernel_rfl) (by kernel_rfl) (fun _ _ _ h => h) (by rfl) ?_ ?_
  rotate_left 1
  · (intro w9; go_simp <;> with_reducible rfl)
  simp only [Act.put, List.setIfInBounds_toArray, List.set_cons_succ, List.set_cons_zero]
  refine Cd.wpAnyZ_loadD (i := 28) (d := 33) (v := ?_) rfl rfl (by kernel_rfl) (by kernel_rfl) (by kernel_rfl) (by kernel_rfl) (fun _ _ _ h => h) HSQ5.out (by rfl) ?_ ?_
  rotate_left 1
  · (intro w9 hS9; obtain ⟨z0, z1, z2, z3, z4, z5, z6, z7, z8, z9, z10⟩ := hS9; go_simp <;> with_reducible rfl)
  simp only [Act.put, List.setIfInBounds_toArray, List.set_cons_succ, List.set_cons_zero]
  refine Cd.wpAnyZ_takeD (i := 29) (d := 34) (v := ?_) rfl rfl (by kernel_rfl) (by kernel_rfl) (by kernel_rfl) (fun _ _ _ h => h) (by rfl) ?_ ?_
  rotate_left 1
  · (intro w9; go_simp <;> with_reducible rfl)
  simp only [Act.put, List.setIfInBounds_toArray, List.set_cons_succ, List.set_cons_zero]
  refine Cd.wpAnyZ_takeD (i := 30) (d := 35) (v := ?_) rfl rfl (by kernel_rfl) (by kernel_rfl) (by kernel_rfl) (fun _ _ _ h => h) (by rfl) ?_ ?_
  rotate_left 1
  · (intro w9; go_simp <;> with_reducible rfl)
  simp only [Act.put, List.setIfInBounds_toArray, List.set_cons_succ, List.set_cons_zero]
  refine Cd.wpAnyZ_loadD (i := 31) (d := 36) (v := ?_) rfl rfl (by kernel_rfl) (by kernel_rfl) (by kernel_rfl) (by kernel_rfl) (fun _ _ _ h => h) HSQ5.out (by rfl) ?_ ?_
  rotate_left 1
  · (intro w9 hS9; obtain ⟨z0, z1, z2, z3, z4, z5, z6, z7, z8, z9, z10⟩ := hS9; go_simp <;> with_reducible rfl)
  simp only [Act.put, List.setIfInBounds_toArray, List.set_cons_succ, List.set_cons_zero]
  refine Cd.wpAnyZ_takeD (i := 32) (d := 37) (v := ?_) rfl rfl (by kernel_rfl) (by kernel_rfl) (by kernel_rfl) (fun _ _ _ h => h) (by rfl) ?_ ?_
  rotate_left 1
  · (intro w9; go_simp <;> with_reducible rfl)
  simp only [Act.put, List.setIfInBounds_toArray, List.set_cons_succ, List.set_cons_zero]
  refine Cd.wpAnyZ_one (i := 33) rfl (by kernel_rfl) (by rfl) ?_
  intro K9 hK9
  go_simp
  go_at_call 63
  (with_reducible refine allNilThing_any.mono ?_)
  rintro e w6 ⟨rfl, k9⟩
  have KC6 := Lib.hid (KC5.out.trans k9 (fun _ h => h.elim))
  clear k9
  have HSQ6 : Hid ((fun w9 : World => w9.cell? ⟨b1, 0, none⟩ = some (.pointer (some ⟨q, 0, none⟩)) ∧ w9.cell? ⟨b2, 0, none⟩ = some (.pointer (some ⟨d, 0, none⟩)) ∧ w9.cell? ⟨q, 3, none⟩ = some (.slice a3 0 c3) ∧ w9.cell? ⟨q, 4, none⟩ = some (.slice a4 0 c4) ∧ w9.cell? ⟨q, 5, none⟩ = some (.slice a5 D.mobs.length c5) ∧ w9.cell? ⟨q, 6, none⟩ = some (.slice a6 0 c6) ∧ w9.cell? ⟨q, 7, none⟩ = some (.slice a7 0 c7) ∧ w9.cell? ⟨q, 8, none⟩ = some (.slice a8 D.shops.length c8) ∧ w9.cell? ⟨q, 2, none⟩ = some (.int .i64 (sumT D.shops)) ∧ w9.cell? ⟨d, 0, none⟩ = some (.slice r1 D.rooms.length s1) ∧ w9.cell? ⟨d, 5, none⟩ = some (.slice r6 D.shops.length s6)) w6) := Lib.hid (HG1.out _ KC6.out)
  refine hK9.out _ _ (fun _ _ => HSQ6.out) ?_
  clear hK9 K9
  refine Cd.wpAnyZ_takeD (i := 34) (d := 39) (v := ?_) rfl rfl (by kernel_rfl) (by kernel_rfl) (by kernel_rfl) (fun _ _ _ h => h) (by rfl) ?_ ?_
  rotate_left 1
  · (intro w9; go_simp <;> with_reducible rfl)
  simp only [Act.put, List.setIfInBounds_toArray, List.set_cons_succ, List.set_cons_zero]
  refine Cd.wpAnyZ_takeD (i := 35) (d := 40) (v := ?_) rfl rfl (by kernel_rfl) (by kernel_rfl) (by kernel_rfl) (fun _ _ _ h => h) (by rfl) ?_ ?_
  rotate_left 1
  · (intro w9; go_simp <;> with_reducible rfl)
  simp only [Act.put, List.setIfInBounds_toArray, List.set_cons_succ, List.set_cons_zero]
  refine Cd.wpAnyZ_loadD (i := 36) (d := 41) (v := ?_) rfl rfl (by kernel_rfl) (by kernel_rfl) (by kernel_rfl) (by kernel_rfl) (fun _ _ _ h => h) HSQ6.out (by rfl) ?_ ?_
  rotate_left 1
  · (intro w9 hS9; obtain ⟨z0, z1, z2, z3, z4, z5, z6, z7, z8, z9, z10⟩ := hS9; go_simp <;> with_reducible rfl)
  simp only [Act.put, List.setIfInBounds_toArray, List.set_cons_succ, List.set_cons_zero]
  refine Cd.wpAnyZ_takeD (i := 37) (d := 42) (v := ?_) rfl rfl (by kernel_rfl) (by kernel_rfl) (by kernel_rfl) (fun _ _ _ h => h) (by rfl) ?_ ?_
  rotate_left 1
  · (intro w9; go_simp <;> with_reducible rfl)
  simp only [Act.put, List.setIfInBounds_toArray, List.set_cons_succ, List.set_cons_zero]
  refine Cd.wpAnyZ_takeD (i := 38) (d := 43) (v := ?_) rfl rfl (by kernel_rfl) (by kernel_rfl) (by kernel_rfl) (fun _ _ _ h => h) (by rfl) ?_ ?_
  rotate_left 1
  · (intro w9; go_simp <;> with_reducible rfl)
  simp only [Act.put, List.setIfInBounds_toArray, List.set_cons_succ, List.set_cons_zero]
  refine Cd.wpAnyZ_loadD (i := 39) (d := 44) (v := ?_) rfl rfl (by kernel_rfl) (by kernel_rfl) (by kernel_rfl) (by kernel_rfl) (fun _ _ _ h => h) HSQ6.out (by rfl) ?_ ?_
  rotate_left 1
  · (intro w9 hS9; obtain ⟨z0, z1, z2, z3, z4, z5, z6, z7, z8, z9, z10⟩ := hS9; go_simp <;> with_reducible rfl)
  simp only [Act.put, List.setIfInBounds_toArray, List.set_cons_succ, List.set_cons_zero]
  refine Cd.wpAnyZ_takeD (i := 40) (d := 45) (v := ?_) rfl rfl (by kernel_rfl) (by kernel_rfl) (by kernel_rfl) (fun _ _ _ h => h) (by rfl) ?_ ?_
  rotate_left 1
  · (intro w9; go_simp <;> with_reducible rfl)
  simp only [Act.put, List.setIfInBounds_toArray, List.set_cons_succ, List.set_cons_zero]
  refine Cd.wpAnyZ_one (i := 41) rfl (by kernel_rfl) (by rfl) ?_
  intro K9 hK9
  go_simp
  go_at_call 66
  (with_reducible refine (C7.out _ KC6.out).mono ?_)
  rintro e w7 ⟨rfl, k9⟩
  have KC7 := Lib.hid (KC6.out.trans k9 (fun _ h => h.elim))
  clear k9
  have HSQ7 : Hid ((fun w9 : World => w9.cell? ⟨b1, 0, none⟩ = some (.pointer (some ⟨q, 0, none⟩)) ∧ w9.cell? ⟨b2, 0, none⟩ = some (.pointer (some ⟨d, 0, none⟩)) ∧ w9.cell? ⟨q, 3, none⟩ = some (.slice a3 0 c3) ∧ w9.cell? ⟨q, 4, none⟩ = some (.slice a4 0 c4) ∧ w9.cell? ⟨q, 5, none⟩ = some (.slice a5 D.mobs.length c5) ∧ w9.cell? ⟨q, 6, none⟩ = some (.slice a6 0 c6) ∧ w9.cell? ⟨q, 7, none⟩ = some (.slice a7 0 c7) ∧ w9.cell? ⟨q, 8, none⟩ = some (.slice a8 D.shops.length c8) ∧ w9.cell? ⟨q, 2, none⟩ = some (.int .i64 (sumT D.shops)) ∧ w9.cell? ⟨d, 0, none⟩ = some (.slice r1 D.rooms.length s1) ∧ w9.cell? ⟨d, 5, none⟩ = some (.slice r6 D.shops.length s6)) w7) := Lib.hid (HG1.out _ KC7.out)
  refine hK9.out _ _ (fun _ _ => HSQ7.out) ?_
  clear hK9 K9
  refine Cd.wpAnyZ_takeD (i := 42) (d := 47) (v := ?_) rfl rfl (by kernel_rfl) (by kernel_rfl) (by kernel_rfl) (fun _ _ _ h => h) (by rfl) ?_ ?_
  rotate_left 1
  · (intro w9; go_simp <;> with_reducible rfl)
  simp only [Act.put, List.setIfInBounds_toArray, List.set_cons_succ, List.set_cons_zero]
  refine Cd.wpAnyZ_takeD (i := 43) (d := 48) (v := ?_) rfl rfl (by kernel_rfl) (by kernel_rfl) (by kernel_rfl) (fun _ _ _ h => h) (by rfl) ?_ ?_
  rotate_left 1
  · (intro w9; go_simp <;> with_reducible rfl)
  simp only [Act.put, List.setIfInBounds_toArray, List.set_cons_succ, List.set_cons_zero]
  refine Cd.wpAnyZ_loadD (i := 44) (d := 49) (v := ?_) rfl rfl (by kernel_rfl) (by kernel_rfl) (by kernel_rfl) (by kernel_rfl) (fun _ _ _ h => h) HSQ7.out (by rfl) ?_ ?_
  rotate_left 1
  · (intro w9 hS9; obtain ⟨z0, z1, z2, z3, z4, z5, z6, z7, z8, z9, z10⟩ := hS9; go_simp <;> with_reducible rfl)
  simp only [Act.put, List.setIfInBounds_toArray, List.set_cons_succ, List.set_cons_zero]
  refine Cd.wpAnyZ_takeD (i := 45) (d := 50) (v := ?_) rfl rfl (by kernel_rfl) (by kernel_rfl) (by kernel_rfl) (fun _ _ _ h => h) (by rfl) ?_ ?_
  rotate_left 1
  · (intro w9; go_simp <;> with_reducible rfl)
  simp only [Act.put, List.setIfInBounds_toArray, List.set_cons_succ, List.set_cons_zero]
  refine Cd.wpAnyZ_takeD (i := 46) (d := 51) (v := ?_) rfl rfl (by kernel_rfl) (by kernel_rfl) (by kernel_rfl) (fun _ _ _ h => h) (by rfl) ?_ ?_
  rotate_left 1
  · (intro w9; go_simp <;> with_reducible rfl)
  simp only [Act.put, List.setIfInBounds_toArray, List.set_cons_succ, List.set_cons_zero]
  refine Cd.wpAnyZ_loadD (i := 47) (d := 52) (v := ?_) rfl rfl (by kernel_rfl) (by kernel_rfl) (by kernel_rfl) (by kernel_rfl) (fun _ _ _ h => h) HSQ7.out (by rfl) ?_ ?_
  rotate_left 1
  · (intro w9 hS9; obtain ⟨z0, z1, z2, z3, z4, z5, z6, z7, z8, z9, z10⟩ := hS9; go_simp <;> with_reducible rfl)
  simp only [Act.put, List.setIfInBounds_toArray, List.set_cons_succ, List.set_cons_zero]
  refine Cd.wpAnyZ_takeD (i := 48) (d := 53) (v := ?_) rfl rfl (by kernel_rfl) (by kernel_rfl) (by kernel_rfl) (fun _ _ _ h => h) (by rfl) ?_ ?_
  rotate_left 1
  · (intro w9; go_simp <;> with_reducible rfl)
  simp only [Act.put, List.setIfInBounds_toArray, List.set_cons_succ, List.set_cons_zero]
  refine Cd.wpAnyZ_one (i := 49) rfl (by kernel_rfl) (by rfl) ?_
  intro K9 hK9
  go_simp
  go_at_call 69
  (with_reducible refine allNilHouse_any.mono ?_)
  rintro e w8 ⟨rfl, k9⟩
  have KC8 := Lib.hid (KC7.out.trans k9 (fun _ h => h.elim))
  clear k9
  have HSQ8 : Hid ((fun w9 : World => w9.cell? ⟨b1, 0, none⟩ = some (.pointer (some ⟨q, 0, none⟩)) ∧ w9.cell? ⟨b2, 0, none⟩ = some (.pointer (some ⟨d, 0, none⟩)) ∧ w9.cell? ⟨q, 3, none⟩ = some (.slice a3 0 c3) ∧ w9.cell? ⟨q, 4, none⟩ = some (.slice a4 0 c4) ∧ w9.cell? ⟨q, 5, none⟩ = some (.slice a5 D.mobs.length c5) ∧ w9.cell? ⟨q, 6, none⟩ = some (.slice a6 0 c6) ∧ w9.cell? ⟨q, 7, none⟩ = some (.slice a7 0 c7) ∧ w9.cell? ⟨q, 8, none⟩ = some (.slice a8 D.shops.length c8) ∧ w9.cell? ⟨q, 2, none⟩ = some (.int .i64 (sumT D.shops)) ∧ w9.cell? ⟨d, 0, none⟩ = some (.slice r1 D.rooms.length s1) ∧ w9.cell? ⟨d, 5, none⟩ = some (.slice r6 D.shops.length s6)) w8) := Lib.hid (HG1.out _ KC8.out)
  refine hK9.out _ _ (fun _ _ => HSQ8.out) ?_
  clear hK9 K9
  refine Cd.wpAnyZ_takeD (i := 50) (d := 55) (v := ?_) rfl rfl (by kernel_rfl) (by kernel_rfl) (by kernel_rfl) (fun _ _ _ h => h) (by rfl) ?_ ?_
  rotate_left 1
  · (intro w9; go_simp <;> with_reducible rfl)
  simp only [Act.put, List.setIfInBounds_toArray, List.set_cons_succ, List.set_cons_zero]
  refine Cd.wpAnyZ_takeD (i := 51) (d := 56) (v := ?_) rfl rfl (by kernel_rfl) (by kernel_rfl) (by kernel_rfl) (fun _ _ _ h => h) (by rfl) ?_ ?_
  rotate_left 1
  · (intro w9; go_simp <;> with_reducible rfl)
  simp only [Act.put, List.setIfInBounds_toArray, List.set_cons_succ, List.set_cons_zero]
  refine Cd.wpAnyZ_loadD (i := 52) (d := 57) (v := ?_) rfl rfl (by kernel_rfl) (by kernel_rfl) (by kernel_rfl) (by kernel_rfl) (fun _ _ _ h => h) HSQ8.out (by rfl) ?_ ?_
  rotate_left 1
  · (intro w9 hS9; obtain ⟨z0, z1, z2, z3, z4, z5, z6, z7, z8, z9, z10⟩ := hS9; go_simp <;> with_reducible rfl)
  simp only [Act.put, List.setIfInBounds_toArray, List.set_cons_succ, List.set_cons_zero]
  refine Cd.wpAnyZ_takeD (i := 53) (d := 58) (v := ?_) rfl rfl (by kernel_rfl) (by kernel_rfl) (by kernel_rfl) (fun _ _ _ h => h) (by rfl) ?_ ?_
  rotate_left 1
  · (intro w9; go_simp <;> with_reducible rfl)
  simp only [Act.put, List.setIfInBounds_toArray, List.set_cons_succ, List.set_cons_zero]
  refine Cd.wpAnyZ_takeD (i := 54) (d := 59) (v := ?_) rfl rfl (by kernel_rfl) (by kernel_rfl) (by kernel_rfl) (fun _ _ _ h => h) (by rfl) ?_ ?_
  rotate_left 1
  · (intro w9; go_simp <;> with_reducible rfl)
  simp only [Act.put, List.setIfInBounds_toArray, List.set_cons_succ, List.set_cons_zero]
  refine Cd.wpAnyZ_loadD (i := 55) (d := 60) (v := ?_) rfl rfl (by kernel_rfl) (by kernel_rfl) (by kernel_rfl) (by kernel_rfl) (fun _ _ _ h => h) HSQ8.out (by rfl) ?_ ?_
  rotate_left 1
  · (intro w9 hS9; obtain ⟨z0, z1, z2, z3, z4, z5, z6, z7, z8, z9, z10⟩ := hS9; go_simp <;> with_reducible rfl)
  simp only [Act.put, List.setIfInBounds_toArray, List.set_cons_succ, List.set_cons_zero]
  refine Cd.wpAnyZ_takeD (i := 56) (d := 61) (v := ?_) rfl rfl (by kernel_rfl) (by kernel_rfl) (by kernel_rfl) (fun _ _ _ h => h) (by rfl) ?_ ?_
  rotate_left 1
  · (intro w9; go_simp <;> with_reducible rfl)
  simp only [Act.put, List.setIfInBounds_toArray, List.set_cons_succ, List.set_cons_zero]
  refine Cd.wpAnyZ_one (i := 57) rfl (by kernel_rfl) (by rfl) ?_
  intro K9 hK9
  go_simp
  go_at_call 72
  (with_reducible refine allNilLot_any.mono ?_)
  rintro e w9 ⟨rfl, k9⟩
  have KC9 := Lib.hid (KC8.out.trans k9 (fun _ h => h.elim))
  clear k9
  have HSQ9 : Hid ((fun w9 : World => w9.cell? ⟨b1, 0, none⟩ = some (.pointer (some ⟨q, 0, none⟩)) ∧ w9.cell? ⟨b2, 0, none⟩ = some (.pointer (some ⟨d, 0, none⟩)) ∧ w9.cell? ⟨q, 3, none⟩ = some (.slice a3 0 c3) ∧ w9.cell? ⟨q, 4, none⟩ = some (.slice a4 0 c4) ∧ w9.cell? ⟨q, 5, none⟩ = some (.slice a5 D.mobs.length c5) ∧ w9.cell? ⟨q, 6, none⟩ = some (.slice a6 0 c6) ∧ w9.cell? ⟨q, 7, none⟩ = some (.slice a7 0 c7) ∧ w9.cell? ⟨q, 8, none⟩ = some (.slice a8 D.shops.length c8) ∧ w9.cell? ⟨q, 2, none⟩ = some (.int .i64 (sumT D.shops)) ∧ w9.cell? ⟨d, 0, none⟩ = some (.slice r1 D.rooms.length s1) ∧ w9.cell? ⟨d, 5, none⟩ = some (.slice r6 D.shops.length s6)) w9) := Lib.hid (HG1.out _ KC9.out)
  refine hK9.out _ _ (fun _ _ => HSQ9.out) ?_
  clear hK9 K9
  refine Cd.wpAnyZ_takeD (i := 58) (d := 63) (v := ?_) rfl rfl (by kernel_rfl) (by kernel_rfl) (by kernel_rfl) (fun _ _ _ h => h) (by rfl) ?_ ?_
  rotate_left 1
  · (intro w9; go_simp <;> with_reducible rfl)
  simp only [Act.put, List.setIfInBounds_toArray, List.set_cons_succ, List.set_cons_zero]
  refine Cd.wpAnyZ_takeD (i := 59) (d := 64) (v := ?_) rfl rfl (by kernel_rfl) (by kernel_rfl) (by kernel_rfl) (fun _ _ _ h => h) (by rfl) ?_ ?_
  rotate_left 1
  · (intro w9; go_simp <;> with_reducible rfl)
  simp only [Act.put, List.setIfInBounds_toArray, List.set_cons_succ, List.set_cons_zero]
  refine Cd.wpAnyZ_loadD (i := 60) (d := 65) (v := ?_) rfl rfl (by kernel_rfl) (by kernel_rfl) (by kernel_rfl) (by kernel_rfl) (fun _ _ _ h => h) HSQ9.out (by rfl) ?_ ?_
  rotate_left 1
  · (intro w9 hS9; obtain ⟨z0, z1, z2, z3, z4, z5, z6, z7, z8, z9, z10⟩ := hS9; go_simp <;> with_reducible rfl)
  simp only [Act.put, List.setIfInBounds_toArray, List.set_cons_succ, List.set_cons_zero]
  refine Cd.wpAnyZ_takeD (i := 61) (d := 66) (v := ?_) rfl rfl (by kernel_rfl) (by kernel_rfl) (by kernel_rfl) (fun _ _ _ h => h) (by rfl) ?_ ?_
  rotate_left 1
  · (intro w9; go_simp <;> with_reducible rfl)
  simp only [Act.put, List.setIfInBounds_toArray, List.set_cons_succ, List.set_cons_zero]
  refine Cd.wpAnyZ_takeD (i := 62) (d := 67) (v := ?_) rfl rfl (by kernel_rfl) (by kernel_rfl) (by kernel_rfl) (fun _ _ _ h => h) (by rfl) ?_ ?_
  rotate_left 1
  · (intro w9; go_simp <;> with_reducible rfl)
  simp only [Act.put, List.setIfInBounds_toArray, List.set_cons_succ, List.set_cons_zero]
  refine Cd.wpAnyZ_loadD (i := 63) (d := 68) (v := ?_) rfl rfl (by kernel_rfl) (by kernel_rfl) (by kernel_rfl) (by kernel_rfl) (fun _ _ _ h => h) HSQ9.out (by rfl) ?_ ?_
  rotate_left 1
  · (intro w9 hS9; obtain ⟨z0, z1, z2, z3, z4, z5, z6, z7, z8, z9, z10⟩ := hS9; go_simp <;> with_reducible rfl)
  simp only [Act.put, List.setIfInBounds_toArray, List.set_cons_succ, List.set_cons_zero]
  refine Cd.wpAnyZ_takeD (i := 64) (d := 69) (v := ?_) rfl rfl (by kernel_rfl) (by kernel_rfl) (by kernel_rfl) (fun _ _ _ h => h) (by rfl) ?_ ?_
  rotate_left 1
  · (intro w9; go_simp <;> with_reducible rfl)
  simp only [Act.put, List.setIfInBounds_toArray, List.set_cons_succ, List.set_cons_zero]
  refine Cd.wpAnyZ_one (i := 65) rfl (by kernel_rfl) (by rfl) ?_
  intro K9 hK9
  go_simp
  go_at_call 75
  (with_reducible refine (C10.out _ KC9.out).mono ?_)
  rintro e w10 ⟨rfl, k9⟩
  have KC10 := Lib.hid (KC9.out.trans k9 (fun _ h => h.elim))
  clear k9
  have HSQ10 : Hid ((fun w9 : World => w9.cell? ⟨b1, 0, none⟩ = some (.pointer (some ⟨q, 0, none⟩)) ∧ w9.cell? ⟨b2, 0, none⟩ = some (.pointer (some ⟨d, 0, none⟩)) ∧ w9.cell? ⟨q, 3, none⟩ = some (.slice a3 0 c3) ∧ w9.cell? ⟨q, 4, none⟩ = some (.slice a4 0 c4) ∧ w9.cell? ⟨q, 5, none⟩ = some (.slice a5 D.mobs.length c5) ∧ w9.cell? ⟨q, 6, none⟩ = some (.slice a6 0 c6) ∧ w9.cell? ⟨q, 7, none⟩ = some (.slice a7 0 c7) ∧ w9.cell? ⟨q, 8, none⟩ = some (.slice a8 D.shops.length c8) ∧ w9.cell? ⟨q, 2, none⟩ = some (.int .i64 (sumT D.shops)) ∧ w9.cell? ⟨d, 0, none⟩ = some (.slice r1 D.rooms.length s1) ∧ w9.cell? ⟨d, 5, none⟩ = some (.slice r6 D.shops.length s6)) w10) := Lib.hid (HG1.out _ KC10.out)
  refine hK9.out _ _ (fun _ _ => HSQ10.out) ?_
  clear hK9 K9
  refine Cd.wpAnyZ_takeD (i := 66) (d := 71) (v := ?_) rfl rfl (by kernel_rfl) (by kernel_rfl) (by kernel_rfl) (fun _ _ _ h => h) (by rfl) ?_ ?_
  rotate_left 1
  · (intro w9; go_simp <;> with_reducible rfl)
  simp only [Act.put, List.setIfInBounds_toArray, List.set_cons_succ, List.set_cons_zero]
  refine Cd.wpAnyZ_takeD (i := 67) (d := 72) (v := ?_) rfl rfl (by kernel_rfl) (by kernel_rfl) (by kernel_rfl) (fun _ _ _ h => h) (by rfl) ?_ ?_
  rotate_left 1
  · (intro w9; go_simp <;> with_reducible rfl)
  simp only [Act.put, List.setIfInBounds_toArray, List.set_cons_succ, List.set_cons_zero]
  refine Cd.wpAnyZ_loadD (i := 68) (d := 73) (v := ?_) rfl rfl (by kernel_rfl) (by kernel_rfl) (by kernel_rfl) (by kernel_rfl) (fun _ _ _ h => h) HSQ10.out (by rfl) ?_ ?_
  rotate_left 1
  · (intro w9 hS9; obtain ⟨z0, z1, z2, z3, z4, z5, z6, z7, z8, z9, z10⟩ := hS9; go_simp <;> with_reducible rfl)
  simp only [Act.put, List.setIfInBounds_toArray, List.set_cons_succ, List.set_cons_zero]
  refine Cd.wpAnyZ_takeD (i := 69) (d := 74) (v := ?_) rfl rfl (by kernel_rfl) (by kernel_rfl) (by kernel_rfl) (fun _ _ _ h => h) (by rfl) ?_ ?_
  rotate_left 1
  · (intro w9; go_simp <;> with_reducible rfl)
  simp only [Act.put, List.setIfInBounds_toArray, List.set_cons_succ, List.set_cons_zero]
  refine Cd.wpAnyZ_takeD (i := 70) (d := 75) (v := ?_) rfl rfl (by kernel_rfl) (by kernel_rfl) (by kernel_rfl) (fun _ _ _ h => h) (by rfl) ?_ ?_
  rotate_left 1
  · (intro w9; go_simp <;> with_reducible rfl)
  simp only [Act.put, List.setIfInBounds_toArray, List.set_cons_succ, List.set_cons_zero]
  refine Cd.wpAnyZ_loadD (i := 71) (d := 76) (v := ?_) rfl rfl (by kernel_rfl) (by kernel_rfl) (by kernel_rfl) (by kernel_rfl) (fun _ _ _ h => h) HSQ10.out (by rfl) ?_ ?_
  rotate_left 1
  · (intro w9 hS9; obtain ⟨z0, z1, z2, z3, z4, z5, z6, z7, z8, z9, z10⟩ := hS9; go_simp <;> with_reducible rfl)
  simp only [Act.put, List.setIfInBounds_toArray, List.set_cons_succ, List.set_cons_zero]
  refine Cd.wpAnyZ_loadD (i := 72) (d := 77) (v := ?_) rfl rfl (by kernel_rfl) (by kernel_rfl) (by kernel_rfl) (by kernel_rfl) (fun _ _ _ h => h) HSQ10.out (by rfl) ?_ ?_
  rotate_left 1
  · (intro w9 hS9; obtain ⟨z0, z1, z2, z3, z4, z5, z6, z7, z8, z9, z10⟩ := hS9; go_simp <;> with_reducible rfl)
  simp only [Act.put, List.setIfInBounds_toArray, List.set_cons_succ, List.set_cons_zero]
  refine Cd.wpAnyZ_takeD (i := 73) (d := 78) (v := ?_) rfl rfl (by kernel_rfl) (by kernel_rfl) (by kernel_rfl) (fun _ _ _ h => h) (by rfl) ?_ ?_
  rotate_left 1
  · (intro w9; go_simp <;> with_reducible rfl)
  simp only [Act.put, List.setIfInBounds_toArray, List.set_cons_succ, List.set_cons_zero]
  refine Cd.wpAnyZ_takeD (i := 74) (d := 79) (v := ?_) rfl rfl (by kernel_rfl) (by kernel_rfl) (by kernel_rfl) (fun _ _ _ h => h) (by rfl) ?_ ?_
  rotate_left 1
  · (intro w9; go_simp <;> with_reducible rfl)
  simp only [Act.put, List.setIfInBounds_toArray, List.set_cons_succ, List.set_cons_zero]
  refine Cd.wpAnyZ_loadD (i := 75) (d := 80) (v := ?_) rfl rfl (by kernel_rfl) (by kernel_rfl) (by kernel_rfl) (by kernel_rfl) (fun _ _ _ h => h) HSQ10.out (by rfl) ?_ ?_
  rotate_left 1
  · (intro w9 hS9; obtain ⟨z0, z1, z2, z3, z4, z5, z6, z7, z8, z9, z10⟩ := hS9; go_simp <;> with_reducible rfl)
  simp only [Act.put, List.setIfInBounds_toArray, List.set_cons_succ, List.set_cons_zero]
  refine Cd.wpAnyZ_one (i := 76) rfl (by kernel_rfl) (by rfl) ?_
  intro K9 hK9
  go_simp
  go_at_call 78
  (with_reducible refine (C11.out _ KC10.out).mono ?_)
  rintro e w11 ⟨rfl, k9⟩
  have KC11 := Lib.hid (KC10.out.trans k9 (fun _ h => h.elim))
  clear k9
  have HSQ11 : Hid ((fun w9 : World => w9.cell? ⟨b1, 0, none⟩ = some (.pointer (some ⟨q, 0, none⟩)) ∧ w9.cell? ⟨b2, 0, none⟩ = some (.pointer (some ⟨d, 0, none⟩)) ∧ w9.cell? ⟨q, 3, none⟩ = some (.slice a3 0 c3) ∧ w9.cell? ⟨q, 4, none⟩ = some (.slice a4 0 c4) ∧ w9.cell? ⟨q, 5, none⟩ = some (.slice a5 D.mobs.length c5) ∧ w9.cell? ⟨q, 6, none⟩ = some (.slice a6 0 c6) ∧ w9.cell? ⟨q, 7, none⟩ = some (.slice a7 0 c7) ∧ w9.cell? ⟨q, 8, none⟩ = some (.slice a8 D.shops.length c8) ∧ w9.cell? ⟨q, 2, none⟩ = some (.int .i64 (sumT D.shops)) ∧ w9.cell? ⟨d, 0, none⟩ = some (.slice r1 D.rooms.length s1) ∧ w9.cell? ⟨d, 5, none⟩ = some (.slice r6 D.shops.length s6)) w11) := Lib.hid (HG1.out _ KC11.out)
  refine hK9.out _ _ (fun _ _ => HSQ11.out) ?_
  clear hK9 K9
  refine Cd.wpAnyZ_takeD (i := 77) (d := 82) (v := ?_) rfl rfl (by kernel_rfl) (by kernel_rfl) (by kernel_rfl) (fun _ _ _ h => h) (by rfl) ?_ ?_
  rotate_left 1
  · (intro w9; go_simp <;> with_reducible rfl)
  simp only [Act.put, List.setIfInBounds_toArray, List.set_cons_succ, List.set_cons_zero]
  refine Cd.wpAnyZ_takeD (i := 78) (d := 83) (v := ?_) rfl rfl (by kernel_rfl) (by kernel_rfl) (by kernel_rfl) (fun _ _ _ h => h) (by rfl) ?_ ?_
  rotate_left 1
  · (intro w9; go_simp <;> with_reducible rfl)
  simp only [Act.put, List.setIfInBounds_toArray, List.set_cons_succ, List.set_cons_zero]
  refine Cd.wpAnyZ_loadD (i := 79) (d := 84) (v := ?_) rfl rfl (by kernel_rfl) (by kernel_rfl) (by kernel_rfl) (by kernel_rfl) (fun _ _ _ h => h) HSQ11.out (by rfl) ?_ ?_
  rotate_left 1
  · (intro w9 hS9; obtain ⟨z0, z1, z2, z3, z4, z5, z6, z7, z8, z9, z10⟩ := hS9; go_simp <;> with_reducible rfl)
  simp only [Act.put, List.setIfInBounds_toArray, List.set_cons_succ, List.set_cons_zero]
  refine Cd.wpAnyZ_loadD (i := 81) (d := 86) (v := ?_) rfl rfl (by kernel_rfl) (by kernel_rfl) (by kernel_rfl) (by kernel_rfl) (fun _ _ _ h => h) HSQ11.out (by rfl) ?_ ?_
  rotate_left 1
  · (intro w9 hS9; obtain ⟨z0, z1, z2, z3, z4, z5, z6, z7, z8, z9, z10⟩ := hS9; go_simp <;> with_reducible rfl)
  simp only [Act.put, List.setIfInBounds_toArray, List.set_cons_succ, List.set_cons_zero]
  refine Cd.wpAnyZ_takeD (i := 82) (d := 87) (v := ?_) rfl rfl (by kernel_rfl) (by kernel_rfl) (by kernel_rfl) (fun _ _ _ h => h) (by rfl) ?_ ?_
  rotate_left 1
  · (intro w9; go_simp <;> with_reducible rfl)
  simp only [Act.put, List.setIfInBounds_toArray, List.set_cons_succ, List.set_cons_zero]
  refine Cd.wpAnyZ_takeD (i := 83) (d := 88) (v := ?_) rfl rfl (by kernel_rfl) (by kernel_rfl) (by kernel_rfl) (fun _ _ _ h => h) (by rfl) ?_ ?_
  rotate_left 1
  · (intro w9; go_simp <;> with_reducible rfl)
  simp only [Act.put, List.setIfInBounds_toArray, List.set_cons_succ, List.set_cons_zero]
  refine Cd.wpAnyZ_loadD (i := 84) (d := 89) (v := ?_) rfl rfl (by kernel_rfl) (by kernel_rfl) (by kernel_rfl) (by kernel_rfl) (fun _ _ _ h => h) HSQ11.out (by rfl) ?_ ?_
  rotate_left 1
  · (intro w9 hS9; obtain ⟨z0, z1, z2, z3, z4, z5, z6, z7, z8, z9, z10⟩ := hS9; go_simp <;> with_reducible rfl)
  simp only [Act.put, List.setIfInBounds_toArray, List.set_cons_succ, List.set_cons_zero]
  refine Cd.wpAnyZ_one (i := 80) rfl (by kernel_rfl) (by rfl) ?_
  intro K9 hK9
  go_simp
  go_at_call 56
  (with_reducible refine (C12.out _ KC11.out).mono ?_)
  rintro e w12 ⟨rfl, k9⟩
  have KC12 := Lib.hid (KC11.out.trans k9 (fun _ h => h.elim))
  clear k9
  have HSQ12 : Hid ((fun w9 : World => w9.cell? ⟨b1, 0, none⟩ = some (.pointer (some ⟨q, 0, none⟩)) ∧ w9.cell? ⟨b2, 0, none⟩ = some (.pointer (some ⟨d, 0, none⟩)) ∧ w9.cell? ⟨q, 3, none⟩ = some (.slice a3 0 c3) ∧ w9.cell? ⟨q, 4, none⟩ = some (.slice a4 0 c4) ∧ w9.cell? ⟨q, 5, none⟩ = some (.slice a5 D.mobs.length c5) ∧ w9.cell? ⟨q, 6, none⟩ = some (.slice a6 0 c6) ∧ w9.cell? ⟨q, 7, none⟩ = some (.slice a7 0 c7) ∧ w9.cell? ⟨q, 8, none⟩ = some (.slice a8 D.shops.length c8) ∧ w9.cell? ⟨q, 2, none⟩ = some (.int .i64 (sumT D.shops)) ∧ w9.cell? ⟨d, 0, none⟩ = some (.slice r1 D.rooms.length s1) ∧ w9.cell? ⟨d, 5, none⟩ = some (.slice r6 D.shops.length s6)) w12) := Lib.hid (HG1.out _ KC12.out)
  refine hK9.out _ _ (fun _ _ => HSQ12.out) ?_
  clear hK9 K9
  refine Cd.wpAnyZ_takeD (i := 85) (d := 90) (v := ?_) rfl rfl (by kernel_rfl) (by kernel_rfl) (by kernel_rfl) (fun _ _ _ h => h) (by rfl) ?_ ?_
  rotate_left 1
  · (intro w9; go_simp <;> with_reducible rfl)
  simp only [Act.put, List.setIfInBounds_toArray, List.set_cons_succ, List.set_cons_zero]
  refine Cd.wpAnyZ_takeD (i := 86) (d := 91) (v := ?_) rfl rfl (by kernel_rfl) (by kernel_rfl) (by kernel_rfl) (fun _ _ _ h => h) (by rfl) ?_ ?_
  rotate_left 1
  · (intro w9; go_simp <;> with_reducible rfl)
  simp only [Act.put, List.setIfInBounds_toArray, List.set_cons_succ, List.set_cons_zero]
  refine Cd.wpAnyZ_takeD (i := 87) (d := 4) (v := ?_) rfl rfl (by kernel_rfl) (by kernel_rfl) (by kernel_rfl) (fun _ _ _ h => h) (by rfl) ?_ ?_
  rotate_left 1
  · (intro w9; go_simp <;> with_reducible rfl)
  simp only [Act.put, List.setIfInBounds_toArray, List.set_cons_succ, List.set_cons_zero]
  refine Cd.wpAnyZ_done (by kernel_rfl) ?_ _
  go_wp2
  go_ret
  exact ⟨by simp, KD.out.trans KC12.out (fun _ e => e.elim)⟩
end Go.Proofs.YtheaghgockafmaaGreat.Wd
