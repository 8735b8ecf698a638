/- World files: the program's sortBy at each kind of row (made by tools/gendcb.py). -/
import Derived.Test.YtcodbomgodkcmaaGreatDoorDcA
import Derived.Test.YtcodbomgodkcmaaGreatDoorLay13
import Derived.Shelf.SlSortCmp.NoneTotal
import Derived.Test.YtcodbomgodkcmaaGreatDoorDbO
import Derived.Test.YtcodbomgodkcmaaGreatDoorDbK
import Derived.Test.YtcodbomgodkcmaaGreatDoorDbW
namespace Go.Proofs.YtcodbomgodkcmaaGreatDoor.Wd
open Go.RowKit Go.Maps Go.Proofs.YtcodbomgodkcmaaGreatDoor Go.Proofs.YtcodbomgodkcmaaGreatDoor.Lin Go.Sort
set_option maxRecDepth 100000

theorem cmp_lt (a b : Int) : decide (Lib.compareInt a b < 0) = decide (a < b) := by
  unfold Lib.compareInt
  by_cases h : a < b
  · simp [h]
  · by_cases h2 : b < a <;> simp [h, h2]

set_option maxHeartbeats 2000000 in
theorem sortRoom_any {w : World} {v : Value} {L : List (RoomM)} (h : Rec w 53 roomC 10 v L) (hl : L.length ≤ 1000000) :
    Calls Tryz.prog 59 #[v, .func (.func 35) #[] #[]] w fun e w' => e = .returned (.tuple #[]) ∧ ∃ M, SortOf (fun x : RoomM => x.id) L M ∧ Rec w' 53 roomC 10 v M ∧ Keep (fun b => v.ownBlock = some b) w w' := by
  obtain ⟨a, cap, rfl, hc1, hc2⟩ := h.slice
  obtain ⟨W, hW⟩ : ∃ W, W = w.alloc (.cells #[.func (.func 35) #[] #[]] 91) := ⟨_, rfl⟩
  have hkW : Keep (fun _ => False) w W := by rw [hW]; exact (Keep.refl _ w).alloc _
  have hRW : Rec W 53 roomC 10 (.slice a L.length cap) L := h.keep hkW (fun _ _ h => h)
  have HWE := Lib.hid hW.symm
  rcases Nat.eq_zero_or_pos L.length with h0 | h0
  · have hL : L = [] := List.length_eq_zero_iff.1 h0
    subst hL
    have hcon := AnyF.slices_SortFunc_none Tryz.sfRoom a cap (.func (.func 111) #[] #[.pointer (some ⟨w.heap.size, 0, none⟩)]) W
    change Calls Tryz.prog 110 _ _ _ at hcon
    have HC := Lib.hid hcon
    have HR := Lib.hid hRW
    have HK := Lib.hid hkW
    clear h hW hkW hRW hcon
    go_enter Tryz.func59, Tryz.ntmps59
    go_wp2_with (go_at_call 110; rw [HWE.out]; (refine HC.out.mono ?_); rintro e w9 ⟨rfl, rfl⟩)
    go_end0
    exact ⟨rfl, [], SortOf.nil _, HR.out, HK.out.mono (fun _ _ h => h.elim)⟩
  · obtain ⟨g, off, c', hv, _⟩ := h.row.full h0
    simp only [Value.slice.injEq] at hv
    obtain ⟨rfl, _, rfl⟩ := hv
    have hgw : g < w.heap.size := h.row.lt rfl
    have hq0 : W.cell? ⟨w.heap.size, 0, none⟩ = some (.func (.func 35) #[] #[]) := by rw [hW, cell_of_row _ _ _ _ _ _ (heap_alloc_new w _)]; rfl
    have hql : w.heap.size < W.heap.size := cell_lt hq0
    have hcf : ∀ x y : RoomM, ltOf (fun x y : RoomM => Lib.compareInt x.id y.id) x y = decide (x.id < y.id) := fun x y => cmp_lt _ _
    have hcmp : CmpLays Tryz.prog 111 #[.pointer (some ⟨w.heap.size, 0, none⟩)] roomC 10 (fun x y : RoomM => Lib.compareInt x.id y.id) g off L.toArray.size W := fun m os dk _ x y =>
      cmpRoom_any (by rw [sortWorld_keep.cell hql (by omega)]; exact hq0) x y
    have hcon := AnyQ.slices_SortFunc Tryz.sfRoom 10 Tryz.isAgg53 Tryz.sizeOf53 roomC roomC_lenA roomC_one (fun x y : RoomM => Lib.compareInt x.id y.id) (swo_key (key := (fun x : RoomM => x.id)) hcf) 111 #[.pointer (some ⟨w.heap.size, 0, none⟩)] g off cap L.toArray W Tryz.en_cmpRoom hcmp (rec_holds hRW roomC_lenA (by omega)) (by omega) (by simp; omega)
    change Calls Tryz.prog 110 _ _ _ at hcon
    rw [List.size_toArray] at hcon
    have HC := Lib.hid hcon
    have HR := Lib.hid hRW
    have HK := Lib.hid hkW
    have HCF := Lib.hid hcf
    clear h hW hkW hRW hcon hcmp hcf hq0
    go_enter Tryz.func59, Tryz.ntmps59
    go_wp2_with (go_at_call 110; rw [HWE.out]; (refine HC.out.mono ?_); rintro e w9 ⟨rfl, d9, n9, os9, hp9, hs9, rfl⟩; have HP9 := Lib.hid hp9; have HS9 := Lib.hid hs9; clear hp9 hs9)
    go_end0
    refine ⟨rfl, d9.toList, ?_, rec_sorted HR.out roomC_lenA (by omega) (by have := HP9.out.1; simpa using this), ?_⟩
    · have := sortOf_lib (d := L.toArray) HCF.out (by rw [List.size_toArray]; exact HP9.out) (by rw [List.size_toArray]; exact HS9.out)
      simpa using this
    · exact (HK.out.mono (fun _ _ h => h.elim)).trans sortWorld_keep (fun b hb => .inl (by rw [hb]; rfl))

set_option maxHeartbeats 2000000 in
theorem sortProto_any {w : World} {v : Value} {L : List (ProtoM)} (h : Rec w 78 protoC 5 v L) (hl : L.length ≤ 1000000) :
    Calls Tryz.prog 60 #[v, .func (.func 61) #[] #[]] w fun e w' => e = .returned (.tuple #[]) ∧ ∃ M, SortOf (fun x : ProtoM => x.id) L M ∧ Rec w' 78 protoC 5 v M ∧ Keep (fun b => v.ownBlock = some b) w w' := by
  obtain ⟨a, cap, rfl, hc1, hc2⟩ := h.slice
  obtain ⟨W, hW⟩ : ∃ W, W = w.alloc (.cells #[.func (.func 61) #[] #[]] 128) := ⟨_, rfl⟩
  have hkW : Keep (fun _ => False) w W := by rw [hW]; exact (Keep.refl _ w).alloc _
  have hRW : Rec W 78 protoC 5 (.slice a L.length cap) L := h.keep hkW (fun _ _ h => h)
  have HWE := Lib.hid hW.symm
  rcases Nat.eq_zero_or_pos L.length with h0 | h0
  · have hL : L = [] := List.length_eq_zero_iff.1 h0
    subst hL
    have hcon := AnyF.slices_SortFunc_none Tryz.sfProto a cap (.func (.func 114) #[] #[.pointer (some ⟨w.heap.size, 0, none⟩)]) W
    change Calls Tryz.prog 113 _ _ _ at hcon
    have HC := Lib.hid hcon
    have HR := Lib.hid hRW
    have HK := Lib.hid hkW
    clear h hW hkW hRW hcon
    go_enter Tryz.func60, Tryz.ntmps60
    go_wp2_with (go_at_call 113; rw [HWE.out]; (refine HC.out.mono ?_); rintro e w9 ⟨rfl, rfl⟩)
    go_end0
    exact ⟨rfl, [], SortOf.nil _, HR.out, HK.out.mono (fun _ _ h => h.elim)⟩
  · obtain ⟨g, off, c', hv, _⟩ := h.row.full h0
    simp only [Value.slice.injEq] at hv
    obtain ⟨rfl, _, rfl⟩ := hv
    have hgw : g < w.heap.size := h.row.lt rfl
    have hq0 : W.cell? ⟨w.heap.size, 0, none⟩ = some (.func (.func 61) #[] #[]) := by rw [hW, cell_of_row _ _ _ _ _ _ (heap_alloc_new w _)]; rfl
    have hql : w.heap.size < W.heap.size := cell_lt hq0
    have hcf : ∀ x y : ProtoM, ltOf (fun x y : ProtoM => Lib.compareInt x.id y.id) x y = decide (x.id < y.id) := fun x y => cmp_lt _ _
    have hcmp : CmpLays Tryz.prog 114 #[.pointer (some ⟨w.heap.size, 0, none⟩)] protoC 5 (fun x y : ProtoM => Lib.compareInt x.id y.id) g off L.toArray.size W := fun m os dk _ x y =>
      cmpProto_any (by rw [sortWorld_keep.cell hql (by omega)]; exact hq0) x y
    have hcon := AnyQ.slices_SortFunc Tryz.sfProto 5 Tryz.isAgg78 Tryz.sizeOf78 protoC protoC_lenA protoC_one (fun x y : ProtoM => Lib.compareInt x.id y.id) (swo_key (key := (fun x : ProtoM => x.id)) hcf) 114 #[.pointer (some ⟨w.heap.size, 0, none⟩)] g off cap L.toArray W Tryz.en_cmpProto hcmp (rec_holds hRW protoC_lenA (by omega)) (by omega) (by simp; omega)
    change Calls Tryz.prog 113 _ _ _ at hcon
    rw [List.size_toArray] at hcon
    have HC := Lib.hid hcon
    have HR := Lib.hid hRW
    have HK := Lib.hid hkW
    have HCF := Lib.hid hcf
    clear h hW hkW hRW hcon hcmp hcf hq0
    go_enter Tryz.func60, Tryz.ntmps60
    go_wp2_with (go_at_call 113; rw [HWE.out]; (refine HC.out.mono ?_); rintro e w9 ⟨rfl, d9, n9, os9, hp9, hs9, rfl⟩; have HP9 := Lib.hid hp9; have HS9 := Lib.hid hs9; clear hp9 hs9)
    go_end0
    refine ⟨rfl, d9.toList, ?_, rec_sorted HR.out protoC_lenA (by omega) (by have := HP9.out.1; simpa using this), ?_⟩
    · have := sortOf_lib (d := L.toArray) HCF.out (by rw [List.size_toArray]; exact HP9.out) (by rw [List.size_toArray]; exact HS9.out)
      simpa using this
    · exact (HK.out.mono (fun _ _ h => h.elim)).trans sortWorld_keep (fun b hb => .inl (by rw [hb]; rfl))

set_option maxHeartbeats 2000000 in
theorem sortMob_any {w : World} {v : Value} {L : List (MobPM)} (h : Rec w 80 mobpC 7 v L) (hl : L.length ≤ 1000000) :
    Calls Tryz.prog 62 #[v, .func (.func 63) #[] #[]] w fun e w' => e = .returned (.tuple #[]) ∧ ∃ M, SortOf (fun x : MobPM => x.id) L M ∧ Rec w' 80 mobpC 7 v M ∧ Keep (fun b => v.ownBlock = some b) w w' := by
  obtain ⟨a, cap, rfl, hc1, hc2⟩ := h.slice
  obtain ⟨W, hW⟩ : ∃ W, W = w.alloc (.cells #[.func (.func 63) #[] #[]] 130) := ⟨_, rfl⟩
  have hkW : Keep (fun _ => False) w W := by rw [hW]; exact (Keep.refl _ w).alloc _
  have hRW : Rec W 80 mobpC 7 (.slice a L.length cap) L := h.keep hkW (fun _ _ h => h)
  have HWE := Lib.hid hW.symm
  rcases Nat.eq_zero_or_pos L.length with h0 | h0
  · have hL : L = [] := List.length_eq_zero_iff.1 h0
    subst hL
    have hcon := AnyF.slices_SortFunc_none Tryz.sfMobProto a cap (.func (.func 116) #[] #[.pointer (some ⟨w.heap.size, 0, none⟩)]) W
    change Calls Tryz.prog 115 _ _ _ at hcon
    have HC := Lib.hid hcon
    have HR := Lib.hid hRW
    have HK := Lib.hid hkW
    clear h hW hkW hRW hcon
    go_enter Tryz.func62, Tryz.ntmps62
    go_wp2_with (go_at_call 115; rw [HWE.out]; (refine HC.out.mono ?_); rintro e w9 ⟨rfl, rfl⟩)
    go_end0
    exact ⟨rfl, [], SortOf.nil _, HR.out, HK.out.mono (fun _ _ h => h.elim)⟩
  · obtain ⟨g, off, c', hv, _⟩ := h.row.full h0
    simp only [Value.slice.injEq] at hv
    obtain ⟨rfl, _, rfl⟩ := hv
    have hgw : g < w.heap.size := h.row.lt rfl
    have hq0 : W.cell? ⟨w.heap.size, 0, none⟩ = some (.func (.func 63) #[] #[]) := by rw [hW, cell_of_row _ _ _ _ _ _ (heap_alloc_new w _)]; rfl
    have hql : w.heap.size < W.heap.size := cell_lt hq0
    have hcf : ∀ x y : MobPM, ltOf (fun x y : MobPM => Lib.compareInt x.id y.id) x y = decide (x.id < y.id) := fun x y => cmp_lt _ _
    have hcmp : CmpLays Tryz.prog 116 #[.pointer (some ⟨w.heap.size, 0, none⟩)] mobpC 7 (fun x y : MobPM => Lib.compareInt x.id y.id) g off L.toArray.size W := fun m os dk _ x y =>
      cmpMob_any (by rw [sortWorld_keep.cell hql (by omega)]; exact hq0) x y
    have hcon := AnyQ.slices_SortFunc Tryz.sfMobProto 7 Tryz.isAgg80 Tryz.sizeOf80 mobpC mobpC_lenA mobpC_one (fun x y : MobPM => Lib.compareInt x.id y.id) (swo_key (key := (fun x : MobPM => x.id)) hcf) 116 #[.pointer (some ⟨w.heap.size, 0, none⟩)] g off cap L.toArray W Tryz.en_cmpMob hcmp (rec_holds hRW mobpC_lenA (by omega)) (by omega) (by simp; omega)
    change Calls Tryz.prog 115 _ _ _ at hcon
    rw [List.size_toArray] at hcon
    have HC := Lib.hid hcon
    have HR := Lib.hid hRW
    have HK := Lib.hid hkW
    have HCF := Lib.hid hcf
    clear h hW hkW hRW hcon hcmp hcf hq0
    go_enter Tryz.func62, Tryz.ntmps62
    go_wp2_with (go_at_call 115; rw [HWE.out]; (refine HC.out.mono ?_); rintro e w9 ⟨rfl, d9, n9, os9, hp9, hs9, rfl⟩; have HP9 := Lib.hid hp9; have HS9 := Lib.hid hs9; clear hp9 hs9)
    go_end0
    refine ⟨rfl, d9.toList, ?_, rec_sorted HR.out mobpC_lenA (by omega) (by have := HP9.out.1; simpa using this), ?_⟩
    · have := sortOf_lib (d := L.toArray) HCF.out (by rw [List.size_toArray]; exact HP9.out) (by rw [List.size_toArray]; exact HS9.out)
      simpa using this
    · exact (HK.out.mono (fun _ _ h => h.elim)).trans sortWorld_keep (fun b hb => .inl (by rw [hb]; rfl))

set_option maxHeartbeats 2000000 in
theorem sortRec_any {w : World} {v : Value} {L : List (RecM × SlV)} (h : Rec w 83 recS 2 v L) (hl : L.length ≤ 1000000) :
    Calls Tryz.prog 64 #[v, .func (.func 65) #[] #[]] w fun e w' => e = .returned (.tuple #[]) ∧ ∃ M, SortOf (fun x : RecM × SlV => x.1.out) L M ∧ Rec w' 83 recS 2 v M ∧ Keep (fun b => v.ownBlock = some b) w w' := by
  obtain ⟨a, cap, rfl, hc1, hc2⟩ := h.slice
  obtain ⟨W, hW⟩ : ∃ W, W = w.alloc (.cells #[.func (.func 65) #[] #[]] 132) := ⟨_, rfl⟩
  have hkW : Keep (fun _ => False) w W := by rw [hW]; exact (Keep.refl _ w).alloc _
  have hRW : Rec W 83 recS 2 (.slice a L.length cap) L := h.keep hkW (fun _ _ h => h)
  have HWE := Lib.hid hW.symm
  rcases Nat.eq_zero_or_pos L.length with h0 | h0
  · have hL : L = [] := List.length_eq_zero_iff.1 h0
    subst hL
    have hcon := AnyF.slices_SortFunc_none Tryz.sfRecipe a cap (.func (.func 118) #[] #[.pointer (some ⟨w.heap.size, 0, none⟩)]) W
    change Calls Tryz.prog 117 _ _ _ at hcon
    have HC := Lib.hid hcon
    have HR := Lib.hid hRW
    have HK := Lib.hid hkW
    clear h hW hkW hRW hcon
    go_enter Tryz.func64, Tryz.ntmps64
    go_wp2_with (go_at_call 117; rw [HWE.out]; (refine HC.out.mono ?_); rintro e w9 ⟨rfl, rfl⟩)
    go_end0
    exact ⟨rfl, [], SortOf.nil _, HR.out, HK.out.mono (fun _ _ h => h.elim)⟩
  · obtain ⟨g, off, c', hv, _⟩ := h.row.full h0
    simp only [Value.slice.injEq] at hv
    obtain ⟨rfl, _, rfl⟩ := hv
    have hgw : g < w.heap.size := h.row.lt rfl
    have hq0 : W.cell? ⟨w.heap.size, 0, none⟩ = some (.func (.func 65) #[] #[]) := by rw [hW, cell_of_row _ _ _ _ _ _ (heap_alloc_new w _)]; rfl
    have hql : w.heap.size < W.heap.size := cell_lt hq0
    have hcf : ∀ x y : RecM × SlV, ltOf (fun x y : RecM × SlV => Lib.compareInt x.1.out y.1.out) x y = decide (x.1.out < y.1.out) := fun x y => cmp_lt _ _
    have hcmp : CmpLays Tryz.prog 118 #[.pointer (some ⟨w.heap.size, 0, none⟩)] recS 2 (fun x y : RecM × SlV => Lib.compareInt x.1.out y.1.out) g off L.toArray.size W := fun m os dk _ x y =>
      cmpRec_any (by rw [sortWorld_keep.cell hql (by omega)]; exact hq0) x y
    have hcon := AnyQ.slices_SortFunc Tryz.sfRecipe 2 Tryz.isAgg83 Tryz.sizeOf83 recS recS_lenA recS_one (fun x y : RecM × SlV => Lib.compareInt x.1.out y.1.out) (swo_key (key := (fun x : RecM × SlV => x.1.out)) hcf) 118 #[.pointer (some ⟨w.heap.size, 0, none⟩)] g off cap L.toArray W Tryz.en_cmpRec hcmp (rec_holds hRW recS_lenA (by omega)) (by omega) (by simp; omega)
    change Calls Tryz.prog 117 _ _ _ at hcon
    rw [List.size_toArray] at hcon
    have HC := Lib.hid hcon
    have HR := Lib.hid hRW
    have HK := Lib.hid hkW
    have HCF := Lib.hid hcf
    clear h hW hkW hRW hcon hcmp hcf hq0
    go_enter Tryz.func64, Tryz.ntmps64
    go_wp2_with (go_at_call 117; rw [HWE.out]; (refine HC.out.mono ?_); rintro e w9 ⟨rfl, d9, n9, os9, hp9, hs9, rfl⟩; have HP9 := Lib.hid hp9; have HS9 := Lib.hid hs9; clear hp9 hs9)
    go_end0
    refine ⟨rfl, d9.toList, ?_, rec_sorted HR.out recS_lenA (by omega) (by have := HP9.out.1; simpa using this), ?_⟩
    · have := sortOf_lib (d := L.toArray) HCF.out (by rw [List.size_toArray]; exact HP9.out) (by rw [List.size_toArray]; exact HS9.out)
      simpa using this
    · exact (HK.out.mono (fun _ _ h => h.elim)).trans sortWorld_keep (fun b hb => .inl (by rw [hb]; rfl))

set_option maxHeartbeats 2000000 in
theorem sortQuest_any {w : World} {v : Value} {L : List (QuestM)} (h : Rec w 86 questC 5 v L) (hl : L.length ≤ 1000000) :
    Calls Tryz.prog 66 #[v, .func (.func 67) #[] #[]] w fun e w' => e = .returned (.tuple #[]) ∧ ∃ M, SortOf (fun x : QuestM => x.id) L M ∧ Rec w' 86 questC 5 v M ∧ Keep (fun b => v.ownBlock = some b) w w' := by
  obtain ⟨a, cap, rfl, hc1, hc2⟩ := h.slice
  obtain ⟨W, hW⟩ : ∃ W, W = w.alloc (.cells #[.func (.func 67) #[] #[]] 134) := ⟨_, rfl⟩
  have hkW : Keep (fun _ => False) w W := by rw [hW]; exact (Keep.refl _ w).alloc _
  have hRW : Rec W 86 questC 5 (.slice a L.length cap) L := h.keep hkW (fun _ _ h => h)
  have HWE := Lib.hid hW.symm
  rcases Nat.eq_zero_or_pos L.length with h0 | h0
  · have hL : L = [] := List.length_eq_zero_iff.1 h0
    subst hL
    have hcon := AnyF.slices_SortFunc_none Tryz.sfQuest a cap (.func (.func 120) #[] #[.pointer (some ⟨w.heap.size, 0, none⟩)]) W
    change Calls Tryz.prog 119 _ _ _ at hcon
    have HC := Lib.hid hcon
    have HR := Lib.hid hRW
    have HK := Lib.hid hkW
    clear h hW hkW hRW hcon
    go_enter Tryz.func66, Tryz.ntmps66
    go_wp2_with (go_at_call 119; rw [HWE.out]; (refine HC.out.mono ?_); rintro e w9 ⟨rfl, rfl⟩)
    go_end0
    exact ⟨rfl, [], SortOf.nil _, HR.out, HK.out.mono (fun _ _ h => h.elim)⟩
  · obtain ⟨g, off, c', hv, _⟩ := h.row.full h0
    simp only [Value.slice.injEq] at hv
    obtain ⟨rfl, _, rfl⟩ := hv
    have hgw : g < w.heap.size := h.row.lt rfl
    have hq0 : W.cell? ⟨w.heap.size, 0, none⟩ = some (.func (.func 67) #[] #[]) := by rw [hW, cell_of_row _ _ _ _ _ _ (heap_alloc_new w _)]; rfl
    have hql : w.heap.size < W.heap.size := cell_lt hq0
    have hcf : ∀ x y : QuestM, ltOf (fun x y : QuestM => Lib.compareInt x.id y.id) x y = decide (x.id < y.id) := fun x y => cmp_lt _ _
    have hcmp : CmpLays Tryz.prog 120 #[.pointer (some ⟨w.heap.size, 0, none⟩)] questC 5 (fun x y : QuestM => Lib.compareInt x.id y.id) g off L.toArray.size W := fun m os dk _ x y =>
      cmpQuest_any (by rw [sortWorld_keep.cell hql (by omega)]; exact hq0) x y
    have hcon := AnyQ.slices_SortFunc Tryz.sfQuest 5 Tryz.isAgg86 Tryz.sizeOf86 questC questC_lenA questC_one (fun x y : QuestM => Lib.compareInt x.id y.id) (swo_key (key := (fun x : QuestM => x.id)) hcf) 120 #[.pointer (some ⟨w.heap.size, 0, none⟩)] g off cap L.toArray W Tryz.en_cmpQuest hcmp (rec_holds hRW questC_lenA (by omega)) (by omega) (by simp; omega)
    change Calls Tryz.prog 119 _ _ _ at hcon
    rw [List.size_toArray] at hcon
    have HC := Lib.hid hcon
    have HR := Lib.hid hRW
    have HK := Lib.hid hkW
    have HCF := Lib.hid hcf
    clear h hW hkW hRW hcon hcmp hcf hq0
    go_enter Tryz.func66, Tryz.ntmps66
    go_wp2_with (go_at_call 119; rw [HWE.out]; (refine HC.out.mono ?_); rintro e w9 ⟨rfl, d9, n9, os9, hp9, hs9, rfl⟩; have HP9 := Lib.hid hp9; have HS9 := Lib.hid hs9; clear hp9 hs9)
    go_end0
    refine ⟨rfl, d9.toList, ?_, rec_sorted HR.out questC_lenA (by omega) (by have := HP9.out.1; simpa using this), ?_⟩
    · have := sortOf_lib (d := L.toArray) HCF.out (by rw [List.size_toArray]; exact HP9.out) (by rw [List.size_toArray]; exact HS9.out)
      simpa using this
    · exact (HK.out.mono (fun _ _ h => h.elim)).trans sortWorld_keep (fun b hb => .inl (by rw [hb]; rfl))

set_option maxHeartbeats 2000000 in
theorem sortShop_any {w : World} {v : Value} {L : List (ShopM × SlV)} (h : Rec w 88 shopS 3 v L) (hl : L.length ≤ 1000000) :
    Calls Tryz.prog 68 #[v, .func (.func 69) #[] #[]] w fun e w' => e = .returned (.tuple #[]) ∧ ∃ M, SortOf (fun x : ShopM × SlV => x.1.room) L M ∧ Rec w' 88 shopS 3 v M ∧ Keep (fun b => v.ownBlock = some b) w w' := by
  obtain ⟨a, cap, rfl, hc1, hc2⟩ := h.slice
  obtain ⟨W, hW⟩ : ∃ W, W = w.alloc (.cells #[.func (.func 69) #[] #[]] 136) := ⟨_, rfl⟩
  have hkW : Keep (fun _ => False) w W := by rw [hW]; exact (Keep.refl _ w).alloc _
  have hRW : Rec W 88 shopS 3 (.slice a L.length cap) L := h.keep hkW (fun _ _ h => h)
  have HWE := Lib.hid hW.symm
  rcases Nat.eq_zero_or_pos L.length with h0 | h0
  · have hL : L = [] := List.length_eq_zero_iff.1 h0
    subst hL
    have hcon := AnyF.slices_SortFunc_none Tryz.sfShop a cap (.func (.func 122) #[] #[.pointer (some ⟨w.heap.size, 0, none⟩)]) W
    change Calls Tryz.prog 121 _ _ _ at hcon
    have HC := Lib.hid hcon
    have HR := Lib.hid hRW
    have HK := Lib.hid hkW
    clear h hW hkW hRW hcon
    go_enter Tryz.func68, Tryz.ntmps68
    go_wp2_with (go_at_call 121; rw [HWE.out]; (refine HC.out.mono ?_); rintro e w9 ⟨rfl, rfl⟩)
    go_end0
    exact ⟨rfl, [], SortOf.nil _, HR.out, HK.out.mono (fun _ _ h => h.elim)⟩
  · obtain ⟨g, off, c', hv, _⟩ := h.row.full h0
    simp only [Value.slice.injEq] at hv
    obtain ⟨rfl, _, rfl⟩ := hv
    have hgw : g < w.heap.size := h.row.lt rfl
    have hq0 : W.cell? ⟨w.heap.size, 0, none⟩ = some (.func (.func 69) #[] #[]) := by rw [hW, cell_of_row _ _ _ _ _ _ (heap_alloc_new w _)]; rfl
    have hql : w.heap.size < W.heap.size := cell_lt hq0
    have hcf : ∀ x y : ShopM × SlV, ltOf (fun x y : ShopM × SlV => Lib.compareInt x.1.room y.1.room) x y = decide (x.1.room < y.1.room) := fun x y => cmp_lt _ _
    have hcmp : CmpLays Tryz.prog 122 #[.pointer (some ⟨w.heap.size, 0, none⟩)] shopS 3 (fun x y : ShopM × SlV => Lib.compareInt x.1.room y.1.room) g off L.toArray.size W := fun m os dk _ x y =>
      cmpShop_any (by rw [sortWorld_keep.cell hql (by omega)]; exact hq0) x y
    have hcon := AnyQ.slices_SortFunc Tryz.sfShop 3 Tryz.isAgg88 Tryz.sizeOf88 shopS shopS_lenA shopS_one (fun x y : ShopM × SlV => Lib.compareInt x.1.room y.1.room) (swo_key (key := (fun x : ShopM × SlV => x.1.room)) hcf) 122 #[.pointer (some ⟨w.heap.size, 0, none⟩)] g off cap L.toArray W Tryz.en_cmpShop hcmp (rec_holds hRW shopS_lenA (by omega)) (by omega) (by simp; omega)
    change Calls Tryz.prog 121 _ _ _ at hcon
    rw [List.size_toArray] at hcon
    have HC := Lib.hid hcon
    have HR := Lib.hid hRW
    have HK := Lib.hid hkW
    have HCF := Lib.hid hcf
    clear h hW hkW hRW hcon hcmp hcf hq0
    go_enter Tryz.func68, Tryz.ntmps68
    go_wp2_with (go_at_call 121; rw [HWE.out]; (refine HC.out.mono ?_); rintro e w9 ⟨rfl, d9, n9, os9, hp9, hs9, rfl⟩; have HP9 := Lib.hid hp9; have HS9 := Lib.hid hs9; clear hp9 hs9)
    go_end0
    refine ⟨rfl, d9.toList, ?_, rec_sorted HR.out shopS_lenA (by omega) (by have := HP9.out.1; simpa using this), ?_⟩
    · have := sortOf_lib (d := L.toArray) HCF.out (by rw [List.size_toArray]; exact HP9.out) (by rw [List.size_toArray]; exact HS9.out)
      simpa using this
    · exact (HK.out.mono (fun _ _ h => h.elim)).trans sortWorld_keep (fun b hb => .inl (by rw [hb]; rfl))
end Go.Proofs.YtcodbomgodkcmaaGreatDoor.Wd
/- World files: the program's tables, their lists sorted (made by tools/gendcc.py). -/
namespace Go.Proofs.YtcodbomgodkcmaaGreatDoor.Wd
open Go.RowKit Go.Maps Go.Proofs.YtcodbomgodkcmaaGreatDoor Go.Proofs.YtcodbomgodkcmaaGreatDoor.Lin Go.Sort
set_option maxRecDepth 100000

/-! A list of numbers in memory, sorted by the library. -/
theorem row_holds1 {w : World} {g off n cap : Nat} {l : List Int} (h : Row w 3 1 (.slice (some ⟨g, off, none⟩) n cap) n (icells l)) : Holds (Value.int .i64) w g off l.toArray := by
  intro j hj
  have hn : n = l.length := by have := h.1; rw [icells_length] at this; omega
  have hj' : j < l.length := by simpa using hj
  obtain ⟨_, _, hv, hc, _⟩ := h.slice
  simp only [Value.slice.injEq] at hv
  obtain ⟨_, _, rfl⟩ := hv
  refine ⟨?_, (h.there j (by omega)).2⟩
  rw [h.cellAt j (by omega), icells_get (List.getElem?_eq_getElem hj'), getElem!_pos _ _ (by simpa using hj)]
  simp
theorem row_sorted1 {w : World} {g off n cap m : Nat} {l l' : List Int} {os : Array Obj} (h : Row w 3 1 (.slice (some ⟨g, off, none⟩) n cap) n (icells l)) (hl : l'.length = l.length) :
    Row (grow (putRow (Value.int .i64) (Sort.ahead w m) g off l'.toArray) os) 3 1 (.slice (some ⟨g, off, none⟩) n cap) n (icells l') ∧ Keep (fun b => b = g) w (grow (putRow (Value.int .i64) (Sort.ahead w m) g off l'.toArray) os) := by
  have hn : n = l.length := by have := h.1; rw [icells_length] at this; omega
  have hsz : ∀ W : World, (putRow (Value.int .i64) W g off l'.toArray).heap.size = W.heap.size := fun W => by simp [putRow, mapBlock]
  have hk : Keep (fun b => b = g) w (grow (putRow (Value.int .i64) (Sort.ahead w m) g off l'.toArray) os) := by
    refine ⟨rfl, rfl, rfl, ?_, fun i hi hn => ?_⟩
    · rw [size_grow, hsz]; exact Nat.le_add_right _ _
    · rw [heap_grow_old _ _ (by rw [hsz]; exact hi)]
      unfold putRow mapBlock
      rw [Array.getElem?_modify, if_neg (fun e => hn e.symm)]
      rfl
  refine ⟨?_, hk⟩
  rcases h.2 with ⟨h', _⟩ | ⟨g', off', cap', cur, lo, hi, h', hg, hnc, hcm, hs, hf, htake⟩
  · simp at h'
  · simp only [Value.slice.injEq, Option.some.injEq, Addr.mk.injEq, and_true, true_and] at h'
    obtain ⟨⟨rfl, rfl⟩, rfl⟩ := h'
    have hg2 : (grow (putRow (Value.int .i64) (Sort.ahead w m) g off l'.toArray) os).heap[g]? = some (.cells (putCells (Value.int .i64) off l'.toArray cur) 3 (lo, hi)) := by
      rw [heap_grow_old _ _ (by rw [hsz]; exact lt_of_block hg)]
      unfold putRow mapBlock
      have : (Sort.ahead w m).heap = w.heap := rfl
      rw [this, Array.getElem?_modify, if_pos rfl, hg]
      rfl
    refine ⟨by rw [icells_length]; omega, .inr ⟨g, off, cap, _, lo, hi, rfl, hg2, hnc, hcm, by simpa [putCells] using hs, hf, ?_⟩⟩
    refine List.ext_getElem? fun j => ?_
    by_cases hj : j < l'.length
    · have hlt : off + j < cur.size := by omega
      rw [List.getElem?_take, if_pos (by omega), List.getElem?_drop, icells_get (List.getElem?_eq_getElem hj)]
      simp only [putCells, Array.getElem?_toList, Array.getElem?_mapIdx, Array.getElem?_eq_getElem hlt, Option.map_some]
      rw [if_pos ⟨by omega, by simp; omega⟩, Nat.add_sub_cancel_left, getElem!_pos _ _ (by simpa using hj)]
      simp
    · rw [List.getElem?_eq_none (by rw [List.length_take]; omega), List.getElem?_eq_none (by rw [icells_length]; omega)]

/-- Rows of numbers lie on where a block of another type is turned. -/
theorem row_ty {w w2 : World} {F : Nat → Prop} {T : Nat} (hF : ∀ b, F b → ∃ cs f, w.heap[b]? = some (.cells cs T f)) (k : Keep F w w2) {T2 s n : Nat} {u : Value} {xs : List Value} (hT : T2 ≠ T) (hrow : Row w T2 s u n xs) : Row w2 T2 s u n xs :=
  hrow.keep k (fun b hb hf => by
    obtain ⟨cs, f, e⟩ := hF b hf
    obtain ⟨cs1, f1, e1⟩ := hrow.type hb
    exact ty_ne e1 e hT rfl)
theorem ints_ty {w w2 : World} {F : Nat → Prop} {T : Nat} (hF : ∀ b, F b → ∃ cs f, w.heap[b]? = some (.cells cs T f)) (k : Keep F w w2) {u : Value} {l : List Int} (hT : 3 ≠ T) (h : Ints w u l) : Ints w2 u l :=
  h.keep k (fun b hb _ hf => by
    obtain ⟨cs, f, e⟩ := hF b hf
    obtain ⟨cs1, f1, e1⟩ := h.2 b hb
    exact ty_ne e1 e hT rfl)

theorem DbO.sort1 {B : Nat → Prop} {w w2 : World} {d : Nat} {D : DbM} {v1 v2 v3 v4 v5 v6 : Value} {rr : List (RecM × Value)} {ss : List (ShopM × Value)} {M : List RoomM} (h : DbO B w d D v1 v2 v3 v4 v5 v6 rr ss) (hr : Rec w2 53 roomC 10 v1 M) (k : Keep (fun b => v1.ownBlock = some b) w w2) : DbO B w2 d { D with rooms := M } v1 v2 v3 v4 v5 v6 rr ss := by
  have hF : ∀ b, v1.ownBlock = some b → ∃ cs f, w.heap[b]? = some (.cells cs 53 f) := fun b hb => h.v.l1.type hb
  refine ⟨⟨(k.block d (lt_of_block h.v.blk) (fun hf => by obtain ⟨cs, f, e⟩ := hF d hf; exact ty_ne h.v.blk e (by decide) rfl)).trans h.v.blk, ⟨h.v.base.1, fun b hb => h.v.base.2 b (Nat.le_trans k.size hb)⟩, hr, row_ty hF k (by decide) h.v.l2, row_ty hF k (by decide) h.v.l3, row_ty hF k (by decide) h.v.l4, row_ty hF k (by decide) h.v.l5, row_ty hF k (by decide) h.v.l6, h.v.fr, h.v.fs, fun x hx => ints_ty hF k (by decide) (h.v.ir x hx), fun x hx => ints_ty hF k (by decide) (h.v.is x hx), h.v.o1, h.v.o2, h.v.o3, h.v.o4, h.v.o5, h.v.o6, h.v.qr, h.v.qs⟩,
    fun x hx => row_ty hF k (by decide) (h.wr x hx), fun x hx => row_ty hF k (by decide) (h.ws x hx), h.ap⟩

theorem DbO.sort2 {B : Nat → Prop} {w w2 : World} {d : Nat} {D : DbM} {v1 v2 v3 v4 v5 v6 : Value} {rr : List (RecM × Value)} {ss : List (ShopM × Value)} {M : List ProtoM} (h : DbO B w d D v1 v2 v3 v4 v5 v6 rr ss) (hr : Rec w2 78 protoC 5 v2 M) (k : Keep (fun b => v2.ownBlock = some b) w w2) : DbO B w2 d { D with protos := M } v1 v2 v3 v4 v5 v6 rr ss := by
  have hF : ∀ b, v2.ownBlock = some b → ∃ cs f, w.heap[b]? = some (.cells cs 78 f) := fun b hb => h.v.l2.type hb
  refine ⟨⟨(k.block d (lt_of_block h.v.blk) (fun hf => by obtain ⟨cs, f, e⟩ := hF d hf; exact ty_ne h.v.blk e (by decide) rfl)).trans h.v.blk, ⟨h.v.base.1, fun b hb => h.v.base.2 b (Nat.le_trans k.size hb)⟩, row_ty hF k (by decide) h.v.l1, hr, row_ty hF k (by decide) h.v.l3, row_ty hF k (by decide) h.v.l4, row_ty hF k (by decide) h.v.l5, row_ty hF k (by decide) h.v.l6, h.v.fr, h.v.fs, fun x hx => ints_ty hF k (by decide) (h.v.ir x hx), fun x hx => ints_ty hF k (by decide) (h.v.is x hx), h.v.o1, h.v.o2, h.v.o3, h.v.o4, h.v.o5, h.v.o6, h.v.qr, h.v.qs⟩,
    fun x hx => row_ty hF k (by decide) (h.wr x hx), fun x hx => row_ty hF k (by decide) (h.ws x hx), h.ap⟩

theorem DbO.sort3 {B : Nat → Prop} {w w2 : World} {d : Nat} {D : DbM} {v1 v2 v3 v4 v5 v6 : Value} {rr : List (RecM × Value)} {ss : List (ShopM × Value)} {M : List MobPM} (h : DbO B w d D v1 v2 v3 v4 v5 v6 rr ss) (hr : Rec w2 80 mobpC 7 v3 M) (k : Keep (fun b => v3.ownBlock = some b) w w2) : DbO B w2 d { D with mobs := M } v1 v2 v3 v4 v5 v6 rr ss := by
  have hF : ∀ b, v3.ownBlock = some b → ∃ cs f, w.heap[b]? = some (.cells cs 80 f) := fun b hb => h.v.l3.type hb
  refine ⟨⟨(k.block d (lt_of_block h.v.blk) (fun hf => by obtain ⟨cs, f, e⟩ := hF d hf; exact ty_ne h.v.blk e (by decide) rfl)).trans h.v.blk, ⟨h.v.base.1, fun b hb => h.v.base.2 b (Nat.le_trans k.size hb)⟩, row_ty hF k (by decide) h.v.l1, row_ty hF k (by decide) h.v.l2, hr, row_ty hF k (by decide) h.v.l4, row_ty hF k (by decide) h.v.l5, row_ty hF k (by decide) h.v.l6, h.v.fr, h.v.fs, fun x hx => ints_ty hF k (by decide) (h.v.ir x hx), fun x hx => ints_ty hF k (by decide) (h.v.is x hx), h.v.o1, h.v.o2, h.v.o3, h.v.o4, h.v.o5, h.v.o6, h.v.qr, h.v.qs⟩,
    fun x hx => row_ty hF k (by decide) (h.wr x hx), fun x hx => row_ty hF k (by decide) (h.ws x hx), h.ap⟩

theorem DbO.sort4 {B : Nat → Prop} {w w2 : World} {d : Nat} {D : DbM} {v1 v2 v3 v4 v5 v6 : Value} {rr : List (RecM × Value)} {ss : List (ShopM × Value)} {M : List (RecM × Value)} (h : DbO B w d D v1 v2 v3 v4 v5 v6 rr ss) (hr : Rec w2 83 recC 2 v4 M) (hp : M.Perm rr) (k : Keep (fun b => v4.ownBlock = some b) w w2) : DbO B w2 d { D with recs := M.map Prod.fst } v1 v2 v3 v4 v5 v6 M ss := by
  have hF : ∀ b, v4.ownBlock = some b → ∃ cs f, w.heap[b]? = some (.cells cs 83 f) := fun b hb => h.v.l4.type hb
  refine ⟨⟨(k.block d (lt_of_block h.v.blk) (fun hf => by obtain ⟨cs, f, e⟩ := hF d hf; exact ty_ne h.v.blk e (by decide) rfl)).trans h.v.blk, ⟨h.v.base.1, fun b hb => h.v.base.2 b (Nat.le_trans k.size hb)⟩, row_ty hF k (by decide) h.v.l1, row_ty hF k (by decide) h.v.l2, row_ty hF k (by decide) h.v.l3, hr, row_ty hF k (by decide) h.v.l5, row_ty hF k (by decide) h.v.l6, rfl, h.v.fs, fun x hx => ints_ty hF k (by decide) (h.v.ir x (hp.mem_iff.1 hx)), fun x hx => ints_ty hF k (by decide) (h.v.is x hx), h.v.o1, h.v.o2, h.v.o3, h.v.o4, h.v.o5, h.v.o6, fun x hx => h.v.qr x (hp.mem_iff.1 hx), fun x hx => h.v.qs x hx⟩,
    fun x hx => row_ty hF k (by decide) (h.wr x (hp.mem_iff.1 hx)), fun x hx => row_ty hF k (by decide) (h.ws x hx), (List.Perm.pairwise_iff (fun {a b} => ApartV.symm) ((hp.map _).append_right _)).2 h.ap⟩

theorem DbO.sort5 {B : Nat → Prop} {w w2 : World} {d : Nat} {D : DbM} {v1 v2 v3 v4 v5 v6 : Value} {rr : List (RecM × Value)} {ss : List (ShopM × Value)} {M : List QuestM} (h : DbO B w d D v1 v2 v3 v4 v5 v6 rr ss) (hr : Rec w2 86 questC 5 v5 M) (k : Keep (fun b => v5.ownBlock = some b) w w2) : DbO B w2 d { D with quests := M } v1 v2 v3 v4 v5 v6 rr ss := by
  have hF : ∀ b, v5.ownBlock = some b → ∃ cs f, w.heap[b]? = some (.cells cs 86 f) := fun b hb => h.v.l5.type hb
  refine ⟨⟨(k.block d (lt_of_block h.v.blk) (fun hf => by obtain ⟨cs, f, e⟩ := hF d hf; exact ty_ne h.v.blk e (by decide) rfl)).trans h.v.blk, ⟨h.v.base.1, fun b hb => h.v.base.2 b (Nat.le_trans k.size hb)⟩, row_ty hF k (by decide) h.v.l1, row_ty hF k (by decide) h.v.l2, row_ty hF k (by decide) h.v.l3, row_ty hF k (by decide) h.v.l4, hr, row_ty hF k (by decide) h.v.l6, h.v.fr, h.v.fs, fun x hx => ints_ty hF k (by decide) (h.v.ir x hx), fun x hx => ints_ty hF k (by decide) (h.v.is x hx), h.v.o1, h.v.o2, h.v.o3, h.v.o4, h.v.o5, h.v.o6, h.v.qr, h.v.qs⟩,
    fun x hx => row_ty hF k (by decide) (h.wr x hx), fun x hx => row_ty hF k (by decide) (h.ws x hx), h.ap⟩

theorem DbO.sort6 {B : Nat → Prop} {w w2 : World} {d : Nat} {D : DbM} {v1 v2 v3 v4 v5 v6 : Value} {rr : List (RecM × Value)} {ss : List (ShopM × Value)} {M : List (ShopM × Value)} (h : DbO B w d D v1 v2 v3 v4 v5 v6 rr ss) (hr : Rec w2 88 shopC 3 v6 M) (hp : M.Perm ss) (k : Keep (fun b => v6.ownBlock = some b) w w2) : DbO B w2 d { D with shops := M.map Prod.fst } v1 v2 v3 v4 v5 v6 rr M := by
  have hF : ∀ b, v6.ownBlock = some b → ∃ cs f, w.heap[b]? = some (.cells cs 88 f) := fun b hb => h.v.l6.type hb
  refine ⟨⟨(k.block d (lt_of_block h.v.blk) (fun hf => by obtain ⟨cs, f, e⟩ := hF d hf; exact ty_ne h.v.blk e (by decide) rfl)).trans h.v.blk, ⟨h.v.base.1, fun b hb => h.v.base.2 b (Nat.le_trans k.size hb)⟩, row_ty hF k (by decide) h.v.l1, row_ty hF k (by decide) h.v.l2, row_ty hF k (by decide) h.v.l3, row_ty hF k (by decide) h.v.l4, row_ty hF k (by decide) h.v.l5, hr, h.v.fr, rfl, fun x hx => ints_ty hF k (by decide) (h.v.ir x hx), fun x hx => ints_ty hF k (by decide) (h.v.is x (hp.mem_iff.1 hx)), h.v.o1, h.v.o2, h.v.o3, h.v.o4, h.v.o5, h.v.o6, fun x hx => h.v.qr x hx, fun x hx => h.v.qs x (hp.mem_iff.1 hx)⟩,
    fun x hx => row_ty hF k (by decide) (h.wr x hx), fun x hx => row_ty hF k (by decide) (h.ws x (hp.mem_iff.1 hx)), (List.Perm.pairwise_iff (fun {a b} => ApartV.symm) ((hp.map _).append_left _)).2 h.ap⟩

/-- One record's own list is sorted. -/
theorem DbO.own4 {B : Nat → Prop} {w w2 : World} {d : Nat} {D : DbM} {v1 v2 v3 v4 v5 v6 : Value} {rr : List (RecM × Value)} {ss : List (ShopM × Value)} (h : DbO B w d D v1 v2 v3 v4 v5 v6 rr ss) {j : Nat} {x : RecM} {u : Value} (hx : rr[j]? = some (x, u)) (hr : Row w2 3 1 u x.needs.length (icells (sortI x.needs))) (k : Keep (fun b => u.ownBlock = some b) w w2) :
    DbO B w2 d { D with recs := (rr.set j ({ x with needs := sortI x.needs }, u)).map Prod.fst } v1 v2 v3 v4 v5 v6 (rr.set j ({ x with needs := sortI x.needs }, u)) ss := by
  have hm := List.mem_of_getElem? hx
  have hF : ∀ b, u.ownBlock = some b → ∃ cs f, w.heap[b]? = some (.cells cs 3 f) := fun b hb => (h.wr _ hm).type hb
  have hjl := (List.getElem?_eq_some_iff.1 hx).1
  have hjx : rr[j] = (x, u) := (List.getElem?_eq_some_iff.1 hx).2
  have hflat : flat recC (rr.set j ({ x with needs := sortI x.needs }, u)) = flat recC rr := by
    unfold flat
    refine congrArg List.flatten (List.ext_getElem? fun i => ?_)
    rw [List.getElem?_map, List.getElem?_map, List.getElem?_set]
    by_cases e : j = i
    · subst e
      rw [if_pos rfl, if_pos hjl, hx]; rfl
    · rw [if_neg e]
  have hsnd : (rr.set j ({ x with needs := sortI x.needs }, u)).map Prod.snd = rr.map Prod.snd := by
    rw [List.map_set]
    refine List.ext_getElem? fun i => ?_
    rw [List.getElem?_set]
    by_cases e : j = i
    · subst e
      rw [if_pos rfl, if_pos (by simpa using hjl), List.getElem?_map, hx]; rfl
    · rw [if_neg e]
  have hmem : ∀ y ∈ rr.set j ({ x with needs := sortI x.needs }, u), y = ({ x with needs := sortI x.needs }, u) ∨ ∃ i, i ≠ j ∧ rr[i]? = some y := fun y hy => by
    obtain ⟨i, hi, he⟩ := List.mem_iff_getElem.1 hy
    rw [List.getElem_set] at he
    split at he
    · exact .inl he.symm
    · rename_i hne
      exact .inr ⟨i, fun e => hne e.symm, by rw [List.getElem?_eq_getElem (by simpa using hi), he]⟩
  have hapart : ∀ i y, i ≠ j → rr[i]? = some y → ∀ b, y.2.ownBlock = some b → ¬ u.ownBlock = some b := fun i y hne hy b hb hu => by
    have hil := (List.getElem?_eq_some_iff.1 hy).1
    have hyy : rr[i] = y := (List.getElem?_eq_some_iff.1 hy).2
    have hp := (List.pairwise_append.1 h.ap).1
    rw [List.pairwise_iff_getElem] at hp
    rcases Nat.lt_or_ge i j with hij | hij
    · have := hp i j (by simpa using hil) (by simpa using hjl) hij
      simp only [List.getElem_map, hyy, hjx] at this
      exact this b hb hu
    · have := hp j i (by simpa using hjl) (by simpa using hil) (by omega)
      simp only [List.getElem_map, hyy, hjx] at this
      exact this b hu hb
  have hother : ∀ y ∈ ss, ∀ b, y.2.ownBlock = some b → ¬ u.ownBlock = some b := fun y hy b hb hu => by
    have hp := (List.pairwise_append.1 h.ap).2.2
    exact hp u (List.mem_map.2 ⟨_, hm, rfl⟩) y.2 (List.mem_map.2 ⟨_, hy, rfl⟩) b hu hb
  have hlen : (sortI x.needs).length = x.needs.length := sortI_len _
  have hself : Row w2 3 1 u ({ x with needs := sortI x.needs } : RecM).needs.length (icells ({ x with needs := sortI x.needs } : RecM).needs) := by
    show Row w2 3 1 u (sortI x.needs).length (icells (sortI x.needs))
    rw [hlen]; exact hr
  have hW : ∀ y ∈ rr.set j ({ x with needs := sortI x.needs }, u), Row w2 3 1 y.2 y.1.needs.length (icells y.1.needs) := fun y hy => by
    rcases hmem y hy with rfl | ⟨i, hne, hy⟩
    · exact hself
    · exact (h.wr y (List.mem_of_getElem? hy)).keep k (hapart i y hne hy)
  have hO : ∀ y ∈ ss, Row w2 3 1 y.2 y.1.items.length (icells y.1.items) := fun y hy => (h.ws y hy).keep k (hother y hy)
  have hq : ∀ y ∈ rr.set j ({ x with needs := sortI x.needs }, u), ∀ b, y.2.ownBlock = some b → B b := fun y hy b hb => by
    rcases hmem y hy with rfl | ⟨i, hne, hy⟩
    · exact h.v.qr _ hm b hb
    · exact h.v.qr y (List.mem_of_getElem? hy) b hb
  have hrec : Rec w2 83 recC 2 v4 (rr.set j ({ x with needs := sortI x.needs }, u)) := by
    have := row_ty hF k (by decide) h.v.l4
    unfold Rec
    rw [List.length_set, hflat]
    exact this
  refine ⟨⟨(k.block d (lt_of_block h.v.blk) (fun hf => by obtain ⟨cs, f, e⟩ := hF d hf; exact ty_ne h.v.blk e (by decide) rfl)).trans h.v.blk, ⟨h.v.base.1, fun b hb => h.v.base.2 b (Nat.le_trans k.size hb)⟩, row_ty hF k (by decide) h.v.l1, row_ty hF k (by decide) h.v.l2, row_ty hF k (by decide) h.v.l3, hrec, row_ty hF k (by decide) h.v.l5, row_ty hF k (by decide) h.v.l6, rfl, h.v.fs, fun x hx => Ints.of_row (hW x hx), fun x hx => Ints.of_row (hO x hx), h.v.o1, h.v.o2, h.v.o3, h.v.o4, h.v.o5, h.v.o6, hq, h.v.qs⟩, hW, hO, ?_⟩
  rw [hsnd]; exact h.ap

/-- One record's own list is sorted. -/
theorem DbO.own6 {B : Nat → Prop} {w w2 : World} {d : Nat} {D : DbM} {v1 v2 v3 v4 v5 v6 : Value} {rr : List (RecM × Value)} {ss : List (ShopM × Value)} (h : DbO B w d D v1 v2 v3 v4 v5 v6 rr ss) {j : Nat} {x : ShopM} {u : Value} (hx : ss[j]? = some (x, u)) (hr : Row w2 3 1 u x.items.length (icells (sortI x.items))) (k : Keep (fun b => u.ownBlock = some b) w w2) :
    DbO B w2 d { D with shops := (ss.set j ({ x with items := sortI x.items }, u)).map Prod.fst } v1 v2 v3 v4 v5 v6 rr (ss.set j ({ x with items := sortI x.items }, u)) := by
  have hm := List.mem_of_getElem? hx
  have hF : ∀ b, u.ownBlock = some b → ∃ cs f, w.heap[b]? = some (.cells cs 3 f) := fun b hb => (h.ws _ hm).type hb
  have hjl := (List.getElem?_eq_some_iff.1 hx).1
  have hjx : ss[j] = (x, u) := (List.getElem?_eq_some_iff.1 hx).2
  have hflat : flat shopC (ss.set j ({ x with items := sortI x.items }, u)) = flat shopC ss := by
    unfold flat
    refine congrArg List.flatten (List.ext_getElem? fun i => ?_)
    rw [List.getElem?_map, List.getElem?_map, List.getElem?_set]
    by_cases e : j = i
    · subst e
      rw [if_pos rfl, if_pos hjl, hx]; rfl
    · rw [if_neg e]
  have hsnd : (ss.set j ({ x with items := sortI x.items }, u)).map Prod.snd = ss.map Prod.snd := by
    rw [List.map_set]
    refine List.ext_getElem? fun i => ?_
    rw [List.getElem?_set]
    by_cases e : j = i
    · subst e
      rw [if_pos rfl, if_pos (by simpa using hjl), List.getElem?_map, hx]; rfl
    · rw [if_neg e]
  have hmem : ∀ y ∈ ss.set j ({ x with items := sortI x.items }, u), y = ({ x with items := sortI x.items }, u) ∨ ∃ i, i ≠ j ∧ ss[i]? = some y := fun y hy => by
    obtain ⟨i, hi, he⟩ := List.mem_iff_getElem.1 hy
    rw [List.getElem_set] at he
    split at he
    · exact .inl he.symm
    · rename_i hne
      exact .inr ⟨i, fun e => hne e.symm, by rw [List.getElem?_eq_getElem (by simpa using hi), he]⟩
  have hapart : ∀ i y, i ≠ j → ss[i]? = some y → ∀ b, y.2.ownBlock = some b → ¬ u.ownBlock = some b := fun i y hne hy b hb hu => by
    have hil := (List.getElem?_eq_some_iff.1 hy).1
    have hyy : ss[i] = y := (List.getElem?_eq_some_iff.1 hy).2
    have hp := (List.pairwise_append.1 h.ap).2.1
    rw [List.pairwise_iff_getElem] at hp
    rcases Nat.lt_or_ge i j with hij | hij
    · have := hp i j (by simpa using hil) (by simpa using hjl) hij
      simp only [List.getElem_map, hyy, hjx] at this
      exact this b hb hu
    · have := hp j i (by simpa using hjl) (by simpa using hil) (by omega)
      simp only [List.getElem_map, hyy, hjx] at this
      exact this b hu hb
  have hother : ∀ y ∈ rr, ∀ b, y.2.ownBlock = some b → ¬ u.ownBlock = some b := fun y hy b hb hu => by
    have hp := (List.pairwise_append.1 h.ap).2.2
    exact hp y.2 (List.mem_map.2 ⟨_, hy, rfl⟩) u (List.mem_map.2 ⟨_, hm, rfl⟩) b hb hu
  have hlen : (sortI x.items).length = x.items.length := sortI_len _
  have hself : Row w2 3 1 u ({ x with items := sortI x.items } : ShopM).items.length (icells ({ x with items := sortI x.items } : ShopM).items) := by
    show Row w2 3 1 u (sortI x.items).length (icells (sortI x.items))
    rw [hlen]; exact hr
  have hW : ∀ y ∈ ss.set j ({ x with items := sortI x.items }, u), Row w2 3 1 y.2 y.1.items.length (icells y.1.items) := fun y hy => by
    rcases hmem y hy with rfl | ⟨i, hne, hy⟩
    · exact hself
    · exact (h.ws y (List.mem_of_getElem? hy)).keep k (hapart i y hne hy)
  have hO : ∀ y ∈ rr, Row w2 3 1 y.2 y.1.needs.length (icells y.1.needs) := fun y hy => (h.wr y hy).keep k (hother y hy)
  have hq : ∀ y ∈ ss.set j ({ x with items := sortI x.items }, u), ∀ b, y.2.ownBlock = some b → B b := fun y hy b hb => by
    rcases hmem y hy with rfl | ⟨i, hne, hy⟩
    · exact h.v.qs _ hm b hb
    · exact h.v.qs y (List.mem_of_getElem? hy) b hb
  have hrec : Rec w2 88 shopC 3 v6 (ss.set j ({ x with items := sortI x.items }, u)) := by
    have := row_ty hF k (by decide) h.v.l6
    unfold Rec
    rw [List.length_set, hflat]
    exact this
  refine ⟨⟨(k.block d (lt_of_block h.v.blk) (fun hf => by obtain ⟨cs, f, e⟩ := hF d hf; exact ty_ne h.v.blk e (by decide) rfl)).trans h.v.blk, ⟨h.v.base.1, fun b hb => h.v.base.2 b (Nat.le_trans k.size hb)⟩, row_ty hF k (by decide) h.v.l1, row_ty hF k (by decide) h.v.l2, row_ty hF k (by decide) h.v.l3, row_ty hF k (by decide) h.v.l4, row_ty hF k (by decide) h.v.l5, hrec, h.v.fr, rfl, fun x hx => Ints.of_row (hO x hx), fun x hx => Ints.of_row (hW x hx), h.v.o1, h.v.o2, h.v.o3, h.v.o4, h.v.o5, h.v.o6, h.v.qr, hq⟩, hO, hW, ?_⟩
  rw [hsnd]; exact h.ap
end Go.Proofs.YtcodbomgodkcmaaGreatDoor.Wd
/- World files: the program's sortTables (made by tools/gendcd.py). -/
namespace Go.Proofs.YtcodbomgodkcmaaGreatDoor.Wd
open Go.RowKit Go.Maps Go.Proofs.YtcodbomgodkcmaaGreatDoor Go.Proofs.YtcodbomgodkcmaaGreatDoor.Lin Go.Sort
set_option maxRecDepth 100000

/-- The library's Sort of numbers. -/
theorem sortInts_any {w : World} {v : Value} {l : List Int} (h : Row w 3 1 v l.length (icells l)) (hl : l.length ≤ 1000000) :
    Calls Tryz.prog 70 #[v] w fun e w' => e = .returned (.tuple #[]) ∧ Row w' 3 1 v l.length (icells (sortI l)) ∧ Keep (fun b => v.ownBlock = some b) w w' := by
  obtain ⟨a, cap, rfl, hc1, hc2⟩ := h.slice
  rcases Nat.eq_zero_or_pos l.length with h0 | h0
  · have hL : l = [] := List.length_eq_zero_iff.1 h0
    subst hL
    have hcon := AnyM.slices_Sort_int_none Tryz.sortA a cap w
    change Calls Tryz.prog 70 _ _ _ at hcon
    refine hcon.mono ?_
    rintro e w9 ⟨rfl, rfl⟩
    exact ⟨rfl, by rw [show sortI [] = [] by simp [sortI]]; exact h, Keep.refl _ _⟩
  · obtain ⟨g, off, c', hv, _⟩ := h.full h0
    simp only [Value.slice.injEq] at hv
    obtain ⟨rfl, _, rfl⟩ := hv
    have hcon := AnyM.slices_Sort_int Tryz.sortA g off cap l w (row_holds1 h) (h.lt (k := g) rfl) (by omega)
    change Calls Tryz.prog 70 _ _ _ at hcon
    refine hcon.mono ?_
    rintro e w9 ⟨rfl, n, os, rfl⟩
    obtain ⟨h1, h2⟩ := row_sorted1 (m := n) (os := os) (l' := sortI l) h (sortI_len l)
    exact ⟨rfl, h1, h2.mono (fun b _ hb => by rw [hb]; rfl)⟩

/-- A slice's parts, and back. -/
def partS : Value → SlV
  | .slice a n c => ⟨a, n, c⟩
  | _ => ⟨none, 0, 0⟩
def backS {α : Type} (y : α × SlV) : α × Value := (y.1, .slice y.2.a y.2.n y.2.c)
theorem map_back {α : Type} : ∀ (L : List (α × Value)), (∀ x ∈ L, ∃ a n c, x.2 = .slice a n c) → (L.map fun x => (x.1, partS x.2)).map backS = L
  | [], _ => rfl
  | (x, u) :: L, h => by
    obtain ⟨a, n, c, e⟩ := h (x, u) (by simp)
    simp only at e
    subst e
    rw [List.map_cons, List.map_cons, map_back L (fun y hy => h y (by simp [hy]))]
    rfl
theorem flat_back {α : Type} {f : α × Value → List Value} {g : α × SlV → List Value} (hfg : ∀ y, f (backS y) = g y) (L : List (α × SlV)) : flat f (L.map backS) = flat g L := by
  unfold flat
  rw [List.flatMap_map]
  congr 1
  funext y
  exact hfg y

theorem sortPairsRec_any {w : World} {B : Nat → Prop} {d : Nat} {D : DbM} {v1 v2 v3 v4 v5 v6 : Value} {rr : List (RecM × Value)} {ss : List (ShopM × Value)} (h : DbO B w d D v1 v2 v3 v4 v5 v6 rr ss) (hl : rr.length ≤ 1000000) :
    Calls Tryz.prog 64 #[v4, .func (.func 65) #[] #[]] w fun e w' => e = .returned (.tuple #[]) ∧ ∃ M : List (RecM × Value), M.Perm rr ∧ SortOf RecM.out D.recs (M.map Prod.fst) ∧ DbO B w' d { D with recs := M.map Prod.fst } v1 v2 v3 v4 v5 v6 M ss ∧ Keep (fun b => v4.ownBlock = some b) w w' := by
  obtain ⟨L', hL'⟩ : ∃ L', L' = rr.map fun x => (x.1, partS x.2) := ⟨_, rfl⟩
  have hb : L'.map backS = rr := by
    rw [hL']
    exact map_back rr (fun x hx => by obtain ⟨a, c, e, _⟩ := (h.wr x hx).slice; exact ⟨a, _, c, e⟩)
  have hlen : L'.length = rr.length := by rw [← hb, List.length_map]
  have hrec : Rec w 83 recS 2 v4 L' := by
    have := h.v.l4
    unfold Rec at this ⊢
    rw [← hb, List.length_map, flat_back (g := recS) (fun y => rfl)] at this
    exact this
  refine (sortRec_any hrec (by omega)).mono ?_
  rintro e w' ⟨rfl, M', hs, hr, hk⟩
  have hp : (M'.map backS).Perm rr := by rw [← hb]; exact hs.1.map backS
  have hr2 : Rec w' 83 recC 2 v4 (M'.map backS) := by
    unfold Rec at hr ⊢
    rw [List.length_map, flat_back (g := recS) (fun y => rfl)]
    exact hr
  refine ⟨rfl, M'.map backS, hp, ?_, h.sort4 hr2 hp hk, hk⟩
  refine ⟨by rw [← h.v.fr]; exact hp.map _, ?_⟩
  rw [List.map_map, List.pairwise_map]
  exact hs.2

theorem sortPairsShop_any {w : World} {B : Nat → Prop} {d : Nat} {D : DbM} {v1 v2 v3 v4 v5 v6 : Value} {rr : List (RecM × Value)} {ss : List (ShopM × Value)} (h : DbO B w d D v1 v2 v3 v4 v5 v6 rr ss) (hl : ss.length ≤ 1000000) :
    Calls Tryz.prog 68 #[v6, .func (.func 69) #[] #[]] w fun e w' => e = .returned (.tuple #[]) ∧ ∃ M : List (ShopM × Value), M.Perm ss ∧ SortOf ShopM.room D.shops (M.map Prod.fst) ∧ DbO B w' d { D with shops := M.map Prod.fst } v1 v2 v3 v4 v5 v6 rr M ∧ Keep (fun b => v6.ownBlock = some b) w w' := by
  obtain ⟨L', hL'⟩ : ∃ L', L' = ss.map fun x => (x.1, partS x.2) := ⟨_, rfl⟩
  have hb : L'.map backS = ss := by
    rw [hL']
    exact map_back ss (fun x hx => by obtain ⟨a, c, e, _⟩ := (h.ws x hx).slice; exact ⟨a, _, c, e⟩)
  have hlen : L'.length = ss.length := by rw [← hb, List.length_map]
  have hrec : Rec w 88 shopS 3 v6 L' := by
    have := h.v.l6
    unfold Rec at this ⊢
    rw [← hb, List.length_map, flat_back (g := shopS) (fun y => rfl)] at this
    exact this
  refine (sortShop_any hrec (by omega)).mono ?_
  rintro e w' ⟨rfl, M', hs, hr, hk⟩
  have hp : (M'.map backS).Perm ss := by rw [← hb]; exact hs.1.map backS
  have hr2 : Rec w' 88 shopC 3 v6 (M'.map backS) := by
    unfold Rec at hr ⊢
    rw [List.length_map, flat_back (g := shopS) (fun y => rfl)]
    exact hr
  refine ⟨rfl, M'.map backS, hp, ?_, h.sort6 hr2 hp hk, hk⟩
  refine ⟨by rw [← h.v.fs]; exact hp.map _, ?_⟩
  rw [List.map_map, List.pairwise_map]
  exact hs.2

theorem set_next {α : Type} {f : α → α} {L : List α} {k : Nat} {x : α} (hx : L[k]? = some x) : ((L.take k).map f ++ L.drop k).set k (f x) = (L.take (k + 1)).map f ++ L.drop (k + 1) := by
  have hk := (List.getElem?_eq_some_iff.1 hx).1
  refine List.ext_getElem? fun i => ?_
  rw [List.getElem?_set]
  by_cases e : k = i
  · subst e
    rw [if_pos rfl, if_pos (by simp; omega), List.getElem?_append_left (by simp; omega), List.getElem?_map, List.getElem?_take, if_pos (by omega), hx]
    rfl
  · rw [if_neg e]
    rcases Nat.lt_or_ge i k with h | h
    · rw [List.getElem?_append_left (by simp; omega), List.getElem?_append_left (by simp; omega), List.getElem?_map, List.getElem?_map, List.getElem?_take, List.getElem?_take, if_pos h, if_pos (by omega)]
    · rw [List.getElem?_append_right (by simp; omega), List.getElem?_append_right (by simp; omega), List.getElem?_drop, List.getElem?_drop]
      congr 1
      simp; omega
theorem get_next {α : Type} {f : α → α} {L : List α} {k : Nat} {x : α} (hx : L[k]? = some x) : ((L.take k).map f ++ L.drop k)[k]? = some x := by
  have hk := (List.getElem?_eq_some_iff.1 hx).1
  rw [List.getElem?_append_right (by simp; omega), List.getElem?_drop]
  rw [← hx]; congr 1; simp; omega
def ownR (x : RecM × Value) : RecM × Value := ({ x.1 with needs := sortI x.1.needs }, x.2)
def ownS (x : ShopM × Value) : ShopM × Value := ({ x.1 with items := sortI x.1.items }, x.2)

/-- While each record's own list is sorted. -/
structure OwR (B : Nat → Prop) (d : Nat) (D : DbM) (v1 v2 v3 v4 v5 v6 : Value) (rr : List (RecM × Value)) (ss : List (ShopM × Value)) (w0 : World) (iv : Value) (wr : World) : Prop where
  ex : ∃ k : Nat, k ≤ rr.length ∧ iv = .int .i64 (k : Int) ∧ DbO B wr d { D with recs := ((rr.take k).map ownR ++ rr.drop k).map Prod.fst } v1 v2 v3 v4 v5 v6 ((rr.take k).map ownR ++ rr.drop k) ss ∧ Keep (fun b => B b) w0 wr
structure OwS (B : Nat → Prop) (d : Nat) (D : DbM) (v1 v2 v3 v4 v5 v6 : Value) (rr : List (RecM × Value)) (ss : List (ShopM × Value)) (w0 : World) (iv : Value) (wr : World) : Prop where
  ex : ∃ k : Nat, k ≤ ss.length ∧ iv = .int .i64 (k : Int) ∧ DbO B wr d { D with shops := ((ss.take k).map ownS ++ ss.drop k).map Prod.fst } v1 v2 v3 v4 v5 v6 rr ((ss.take k).map ownS ++ ss.drop k) ∧ Keep (fun b => B b) w0 wr

theorem zD4 : ∃ Z : Array Value, Hid (∀ w : World, (zeroValue 83).run Tryz.prog w = .ok (.agg Z) w) ∧ Hid (Z.size = 2) := ⟨#[.int .i64 0, .slice none 0 0], Lib.hid (fun w => by kernel_rfl), Lib.hid rfl⟩
theorem zD6 : ∃ Z : Array Value, Hid (∀ w : World, (zeroValue 88).run Tryz.prog w = .ok (.agg Z) w) ∧ Hid (Z.size = 3) := ⟨#[.int .i64 0, .int .i64 0, .slice none 0 0], Lib.hid (fun w => by kernel_rfl), Lib.hid rfl⟩
theorem Tryz.infoD4 : (Tryz.prog.info? 83).map (·.size) = some 2 := by kernel_rfl
theorem Tryz.infoD6 : (Tryz.prog.info? 88).map (·.size) = some 3 := by kernel_rfl

set_option maxHeartbeats 8000000 in
theorem sortTables_any {w : World} {B : Nat → Prop} {d : Nat} {D : DbM} {v1 v2 v3 v4 v5 v6 : Value} {rr : List (RecM × Value)} {ss : List (ShopM × Value)} (h : DbO B w d D v1 v2 v3 v4 v5 v6 rr ss) (n1 : D.rooms.length ≤ 1000000) (n2 : D.protos.length ≤ 1000000) (n3 : D.mobs.length ≤ 1000000) (n4 : D.recs.length ≤ 1000000) (n5 : D.quests.length ≤ 1000000) (n6 : D.shops.length ≤ 1000000)
    (m4 : ∀ x ∈ D.recs, x.needs.length ≤ 1000000) (m6 : ∀ x ∈ D.shops, x.items.length ≤ 1000000) :
    Calls Tryz.prog 18 #[.pointer (some ⟨d, 0, none⟩)] w fun e w' => e = .returned (.tuple #[]) ∧ ∃ M rr' ss', SortDb D M ∧ DbO B w' d (sortN M) v1 v2 v3 v4 v5 v6 rr' ss' ∧ Keep (fun b => B b) w w' := by
  have q4 : rr.length ≤ 1000000 := by rw [← h.v.fr, List.length_map] at n4; exact n4
  have q6 : ss.length ≤ 1000000 := by rw [← h.v.fs, List.length_map] at n6; exact n6
  have H0 := Lib.hid h
  have M4' := Lib.hid m4
  have M6' := Lib.hid m6
  have Q4 := Lib.hid q4
  have Q6 := Lib.hid q6
  have N1 := Lib.hid n1; have N2 := Lib.hid n2; have N3 := Lib.hid n3; have N5 := Lib.hid n5
  have c1 : w.cell? ⟨d, 0, none⟩ = some v1 := (cell_of_row w d 0 _ _ _ h.v.blk).trans rfl
  have K := Lib.hid (Keep.refl (fun b => B b) w)
  clear h m4 m6 n1 n2 n3 n4 n5 n6 q4 q6
  go_enter Tryz.func18, Tryz.ntmps18
  go_wp2_with (first
    | (go_at_call 59; (with_reducible refine (sortRoom_any H0.out.v.l1 N1.out).mono ?_); rintro e w1 ⟨rfl, M1, hs1, hr1, hk1⟩; have S1 := Lib.hid hs1; have K := Lib.hid (K.out.trans hk1 (fun b hb => .inl (H0.out.v.o1 b hb))); have H1 := Lib.hid (H0.out.sort1 hr1 hk1); clear hs1 hr1 hk1; have c2 : w1.cell? ⟨d, 1, none⟩ = some v2 := (cell_of_row w1 d 1 _ _ _ H1.out.v.blk).trans rfl; clear c1)
    | (go_at_call 60; (with_reducible refine (sortProto_any H1.out.v.l2 N2.out).mono ?_); rintro e w2 ⟨rfl, M2, hs2, hr2, hk2⟩; have S2 := Lib.hid hs2; have K := Lib.hid (K.out.trans hk2 (fun b hb => .inl (H1.out.v.o2 b hb))); have H2 := Lib.hid (H1.out.sort2 hr2 hk2); clear hs2 hr2 hk2; have c3 : w2.cell? ⟨d, 2, none⟩ = some v3 := (cell_of_row w2 d 2 _ _ _ H2.out.v.blk).trans rfl; clear c2)
    | (go_at_call 62; (with_reducible refine (sortMob_any H2.out.v.l3 N3.out).mono ?_); rintro e w3 ⟨rfl, M3, hs3, hr3, hk3⟩; have S3 := Lib.hid hs3; have K := Lib.hid (K.out.trans hk3 (fun b hb => .inl (H2.out.v.o3 b hb))); have H3 := Lib.hid (H2.out.sort3 hr3 hk3); clear hs3 hr3 hk3; have c4 : w3.cell? ⟨d, 3, none⟩ = some v4 := (cell_of_row w3 d 3 _ _ _ H3.out.v.blk).trans rfl; clear c3)
    | (go_at_call 64; (with_reducible refine (sortPairsRec_any H3.out Q4.out).mono ?_); rintro e w4 ⟨rfl, M4, hp4, hs4, ho4, hk4⟩; have P4 := Lib.hid hp4; have S4 := Lib.hid hs4; have K := Lib.hid (K.out.trans hk4 (fun b hb => .inl (H3.out.v.o4 b hb))); have H4 := Lib.hid ho4; clear hp4 hs4 ho4 hk4; have c5 : w4.cell? ⟨d, 4, none⟩ = some v5 := (cell_of_row w4 d 4 _ _ _ H4.out.v.blk).trans rfl; clear c4)
    | (go_at_call 66; (with_reducible refine (sortQuest_any H4.out.v.l5 N5.out).mono ?_); rintro e w5 ⟨rfl, M5, hs5, hr5, hk5⟩; have S5 := Lib.hid hs5; have K := Lib.hid (K.out.trans hk5 (fun b hb => .inl (H4.out.v.o5 b hb))); have H5 := Lib.hid (H4.out.sort5 hr5 hk5); clear hs5 hr5 hk5; have c6 : w5.cell? ⟨d, 5, none⟩ = some v6 := (cell_of_row w5 d 5 _ _ _ H5.out.v.blk).trans rfl; clear c5)
    | (go_at_call 68; (with_reducible refine (sortPairsShop_any H5.out Q6.out).mono ?_); rintro e w6 ⟨rfl, M6, hp6, hs6, ho6, hk6⟩; have P6 := Lib.hid hp6; have S6 := Lib.hid hs6; have K := Lib.hid (K.out.trans hk6 (fun b hb => .inl (H5.out.v.o6 b hb))); have H6 := Lib.hid ho6; clear hp6 hs6 ho6 hk6; clear c6; obtain ⟨a4, k4, rfl, hk4, hk4b⟩ := H6.out.v.l4.slice; obtain ⟨a6, k6, rfl, hk6, hk6b⟩ := H6.out.v.l6.slice; unfold maxLen at hk4b hk6b; have cd4 : w6.cell? ⟨d, 3, none⟩ = some (.slice a4 M4.length k4) := (cell_of_row w6 d 3 _ _ _ H6.out.v.blk).trans rfl)
    | fail)
  have HS : Hid (SortDb D { rooms := M1, protos := M2, mobs := M3, recs := M4.map Prod.fst, quests := M5, shops := M6.map Prod.fst }) := Lib.hid ⟨S1.out, S2.out, S3.out, S4.out, S5.out, S6.out⟩
  have HL4 : Hid (∀ y ∈ M4, y.1.needs.length ≤ 1000000) := Lib.hid (fun y hy => M4'.out y.1 (S4.out.1.mem_iff.1 (List.mem_map.2 ⟨y, hy, rfl⟩)))
  have HL6 : Hid (∀ y ∈ M6, y.1.items.length ≤ 1000000) := Lib.hid (fun y hy => M6'.out y.1 (S6.out.1.mem_iff.1 (List.mem_map.2 ⟨y, hy, rfl⟩)))
  have H : Hid (DbO B w6 d { rooms := M1, protos := M2, mobs := M3, recs := M4.map Prod.fst, quests := M5, shops := M6.map Prod.fst } v1 v2 v3 (.slice a4 M4.length k4) v5 (.slice a6 M6.length k6) M4 M6) := Lib.hid H6.out
  clear H0 H1 H2 H3 H4 H5 H6 S1 S2 S3 S4 S5 S6 P4 P6
  generalize hD6 : ({ rooms := M1, protos := M2, mobs := M3, recs := M4.map Prod.fst, quests := M5, shops := M6.map Prod.fst } : DbM) = D6 at HS H
  have HD6 := Lib.hid hD6
  clear hD6
  obtain ⟨Z4, HZ4, HZS4⟩ := zD4
  obtain ⟨Z6, HZ6, HZS6⟩ := zD6
  have HI4 := Lib.hid Tryz.infoD4
  have HI6 := Lib.hid Tryz.infoD6
  go_loopw [41] (fun iv wr => OwR B d D6 v1 v2 v3 (.slice a4 M4.length k4) v5 (.slice a6 M6.length k6) M4 M6 w iv wr) (fun iv _ => M4.length - (intOf iv).toNat)
  case atStart =>
    refine ⟨0, by omega, rfl, ?_, K.out⟩
    have h := H.out
    have e : ({ D6 with recs := ((M4.take 0).map ownR ++ M4.drop 0).map Prod.fst } : DbM) = D6 := by rw [← HD6.out]; rfl
    rw [e]
    exact h
  case round =>
    obtain ⟨k, hk, rfl, ho, hK⟩ := hrel.ex
    have HO := Lib.hid ho; have HK := Lib.hid hK
    clear ho hK hrel
    by_cases hlt : k < M4.length
    · have hd1 : decide (k < M4.length) = true := by simpa using hlt
      obtain ⟨⟨x, xv⟩, hx⟩ : ∃ x, M4[k]? = some x := ⟨_, List.getElem?_eq_getElem hlt⟩
      have hx2 := get_next (f := ownR) hx
      have HX := Lib.hid hx
      have hrow := HO.out.wr _ (List.mem_of_getElem? hx2)
      obtain ⟨xa, xc, hxv, hxc, hxc2⟩ := hrow.slice
      simp only at hxv
      subst hxv
      unfold maxLen at hxc2
      obtain ⟨g, off, rfl, hg⟩ := HO.out.v.l4.some hx2
      have hrg := HO.out.v.l4.range recC_len k _ hx2
      have q0 : wr.cell? ⟨g, off + k * 2, none⟩ = some (.int .i64 x.out) := hrg 0 _ rfl
      have q1 : wr.cell? ⟨g, off + k * 2 + 1, none⟩ = some (.slice xa x.needs.length xc) := hrg 1 _ rfl
      have HX2 := Lib.hid hx2
      have HROW := Lib.hid hrow
      have HNL : Hid (x.needs.length ≤ 1000000) := Lib.hid (HL4.out _ (List.mem_of_getElem? hx))
      clear hrg hx hx2 hrow
      go_wp2_with (first
        | (refine wpList_var_any (C := (recC (x, .slice xa x.needs.length xc)).toArray) HZ4.out HI4.out HZS4.out (by simp [recC, Value.oneCell']) rfl rfl rfl (.tmp 3) (.tmp 44) rfl rfl rfl ?_; intro W1 B1 hb1 hk1; have f1 : W1.cell? ⟨B1, 1, none⟩ = some (.slice xa x.needs.length xc) := (cell_of_row W1 B1 1 _ _ _ hb1).trans rfl; have HO1 := Lib.hid (HO.out.keep0 hk1); have HR1 := Lib.hid (HROW.out.keep hk1 (fun _ _ h => h)); have HK1 := Lib.hid (HK.out.trans hk1 (fun _ h => h.elim)); clear hb1 hk1; simp only [Act.put, List.setIfInBounds_toArray, List.set_cons_succ, List.set_cons_zero])
        | (go_at_call 70; (with_reducible refine (sortInts_any HR1.out HNL.out).mono ?_); rintro e w9 ⟨rfl, r9, k9⟩; have HO9 := Lib.hid (HO1.out.own4 HX2.out r9 k9); have HK9 := Lib.hid (HK1.out.trans k9 (fun b hb => .inl (HO1.out.v.qr _ (List.mem_of_getElem? HX2.out) b hb))); clear r9 k9))
      go_roundw
      case rel =>
        refine ⟨k + 1, by omega, by go_num, ?_, HK9.out⟩
        have h9 := HO9.out
        rw [show ({ x with needs := sortI x.needs }, Value.slice xa x.needs.length xc) = ownR (x, .slice xa x.needs.length xc) from rfl, set_next HX.out] at h9
        exact h9
      case measure => simp [intOf]; omega
    · have hd1 : decide (k < M4.length) = false := by rw [decide_eq_false_iff_not]; omega
      obtain rfl : k = M4.length := by omega
      have HOE : Hid (DbO B wr d { D6 with recs := (M4.map ownR).map Prod.fst } v1 v2 v3 (.slice a4 M4.length k4) v5 (.slice a6 M6.length k6) (M4.map ownR) M6) := Lib.hid (by
        have h := HO.out
        rw [List.take_length, List.drop_length, List.append_nil] at h
        exact h)
      have cd6 : wr.cell? ⟨d, 5, none⟩ = some (.slice a6 M6.length k6) := (cell_of_row wr d 5 _ _ _ HOE.out.v.blk).trans rfl
      have HKE := Lib.hid HK.out
      generalize hD7 : ({ D6 with recs := (M4.map ownR).map Prod.fst } : DbM) = D7 at HOE
      have HD7 := Lib.hid hD7
      generalize hR7 : M4.map ownR = R7 at HOE
      have HR7 := Lib.hid hR7
      clear hD7 hR7 HO HK
      go_wp2
      go_loopw [54] (fun iv wr => OwS B d D7 v1 v2 v3 (.slice a4 M4.length k4) v5 (.slice a6 M6.length k6) R7 M6 w iv wr) (fun iv _ => M6.length - (intOf iv).toNat)
      case atStart =>
        refine ⟨0, by omega, rfl, ?_, HKE.out⟩
        have h := HOE.out
        have e : ({ D7 with shops := ((M6.take 0).map ownS ++ M6.drop 0).map Prod.fst } : DbM) = D7 := by rw [← HD7.out, ← HD6.out]; rfl
        rw [e]
        exact h
      case round =>
        obtain ⟨k, hk, rfl, ho, hK⟩ := hrel.ex
        have HO := Lib.hid ho; have HK := Lib.hid hK
        clear ho hK hrel
        by_cases hlt : k < M6.length
        · have hd1 : decide (k < M6.length) = true := by simpa using hlt
          obtain ⟨⟨x, xv⟩, hx⟩ : ∃ x, M6[k]? = some x := ⟨_, List.getElem?_eq_getElem hlt⟩
          have hx2 := get_next (f := ownS) hx
          have HX := Lib.hid hx
          have hrow := HO.out.ws _ (List.mem_of_getElem? hx2)
          obtain ⟨xa, xc, hxv, hxc, hxc2⟩ := hrow.slice
          simp only at hxv
          subst hxv
          unfold maxLen at hxc2
          obtain ⟨g, off, rfl, hg⟩ := HO.out.v.l6.some hx2
          have hrg := HO.out.v.l6.range shopC_len k _ hx2
          have q0 : wr.cell? ⟨g, off + k * 3, none⟩ = some (.int .i64 x.room) := hrg 0 _ rfl
          have q1 : wr.cell? ⟨g, off + k * 3 + 1, none⟩ = some (.int .i64 x.till) := hrg 1 _ rfl
          have q2 : wr.cell? ⟨g, off + k * 3 + 2, none⟩ = some (.slice xa x.items.length xc) := hrg 2 _ rfl
          have HX2 := Lib.hid hx2
          have HROW := Lib.hid hrow
          have HNL : Hid (x.items.length ≤ 1000000) := Lib.hid (HL6.out _ (List.mem_of_getElem? hx))
          clear hrg hx hx2 hrow
          go_wp2_with (first
            | (refine wpList_var_any (C := (shopC (x, .slice xa x.items.length xc)).toArray) HZ6.out HI6.out HZS6.out (by simp [shopC, Value.oneCell']) rfl rfl rfl (.tmp 5) (.tmp 57) rfl rfl rfl ?_; intro W1 B1 hb1 hk1; have f1 : W1.cell? ⟨B1, 2, none⟩ = some (.slice xa x.items.length xc) := (cell_of_row W1 B1 2 _ _ _ hb1).trans rfl; have HO1 := Lib.hid (HO.out.keep0 hk1); have HR1 := Lib.hid (HROW.out.keep hk1 (fun _ _ h => h)); have HK1 := Lib.hid (HK.out.trans hk1 (fun _ h => h.elim)); clear hb1 hk1; simp only [Act.put, List.setIfInBounds_toArray, List.set_cons_succ, List.set_cons_zero])
            | (go_at_call 70; (with_reducible refine (sortInts_any HR1.out HNL.out).mono ?_); rintro e w9 ⟨rfl, r9, k9⟩; have HO9 := Lib.hid (HO1.out.own6 HX2.out r9 k9); have HK9 := Lib.hid (HK1.out.trans k9 (fun b hb => .inl (HO1.out.v.qs _ (List.mem_of_getElem? HX2.out) b hb))); clear r9 k9))
          go_roundw
          case rel =>
            refine ⟨k + 1, by omega, by go_num, ?_, HK9.out⟩
            have h9 := HO9.out
            rw [show ({ x with items := sortI x.items }, Value.slice xa x.items.length xc) = ownS (x, .slice xa x.items.length xc) from rfl, set_next HX.out] at h9
            exact h9
          case measure => simp [intOf]; omega
        · have hd1 : decide (k < M6.length) = false := by rw [decide_eq_false_iff_not]; omega
          obtain rfl : k = M6.length := by omega
          have h := HO.out
          rw [List.take_length, List.drop_length, List.append_nil] at h
          have e : ({ D7 with shops := (M6.map ownS).map Prod.fst } : DbM) = sortN D6 := by
            rw [← HD7.out, ← HD6.out]
            unfold sortN
            simp only [List.map_map]
            rfl
          rw [e] at h
          go_wp2
          go_end0
          exact ⟨rfl, D6, _, _, HS.out, h, HK.out⟩
end Go.Proofs.YtcodbomgodkcmaaGreatDoor.Wd
