/- World files: the numbers by which lists rise, and the comparisons that the sort is handed (made by tools/gendca.py). -/
import Derived.Test.YtcodbomgodkcmaaGreatDoorDbK
import Derived.Test.YtcodbomgodkcmaaGreatDoorLinN
import Derived.Test.YtcodbomgodkcmaaGreatDoorDbA
import Derived.Shelf.SlSortCmp.QuietGrown
namespace Go.Proofs.YtcodbomgodkcmaaGreatDoor.Wd
open Go.RowKit Go.Maps Go.Proofs.YtcodbomgodkcmaaGreatDoor Go.Proofs.YtcodbomgodkcmaaGreatDoor.Lin Go.Sort
set_option maxRecDepth 100000

/-- A slice's parts. -/
structure SlV where
  a : Option Addr
  n : Nat
  c : Nat
instance : Inhabited RoomM := ⟨⟨0, ⟨#[]⟩, 0, 0, 0, 0, 0, 0, 0, 0⟩⟩
instance : Inhabited ProtoM := ⟨⟨0, ⟨#[]⟩, 0, 0, 0⟩⟩
instance : Inhabited MobPM := ⟨⟨0, ⟨#[]⟩, 0, 0, 0, 0, 0⟩⟩
instance : Inhabited RecM := ⟨⟨0, []⟩⟩
instance : Inhabited QuestM := ⟨⟨0, 0, 0, 0, 0⟩⟩
instance : Inhabited ShopM := ⟨⟨0, 0, []⟩⟩
instance : Inhabited SlV := ⟨⟨none, 0, 0⟩⟩
def recS (x : RecM × SlV) : List Value := [.int .i64 x.1.out, .slice x.2.a x.2.n x.2.c]
def shopS (x : ShopM × SlV) : List Value := [.int .i64 x.1.room, .int .i64 x.1.till, .slice x.2.a x.2.n x.2.c]

theorem Tryz.mixedO : Tryz.prog.follows .mixedOrders = true := by kernel_rfl

theorem nanI_any {w : World} (x : Int) : Calls Tryz.prog 158 #[.int .i64 x] w fun e w' => e = .returned (.bool false) ∧ w = w' := by
  go_enter Tryz.func158, Tryz.ntmps158
  go_wp2
  go_ret
  exact ⟨by simp, rfl⟩
theorem cmpI_any {w : World} (x y : Int) : Calls Tryz.prog 112 #[.int .i64 x, .int .i64 y] w fun e w' => e = .returned (.int .i64 (Lib.compareInt x y)) ∧ w' = w := by
  unfold Lib.compareInt
  go_enter Tryz.func112, Tryz.ntmps112
  go_wp2_with (go_at_call 158; (with_reducible refine (nanI_any _).mono ?_); rintro e w9 ⟨rfl, rfl⟩)
  all_goals (go_ret; refine ⟨?_, rfl⟩; (repeat' split) <;> first | rfl | (exfalso; omega))

theorem roomC_lenA (x : RoomM) : (roomC x).length = 10 := rfl
theorem roomC_one (x : RoomM) : ∀ v ∈ roomC x, v.oneCell' = true := by
  intro v hv
  simp only [roomC, List.mem_cons, List.not_mem_nil, or_false] at hv
  rcases hv with rfl | rfl | rfl | rfl | rfl | rfl | rfl | rfl | rfl | rfl <;> rfl
theorem roomId_any {w : World} (x : RoomM) : Calls Tryz.prog 35 #[.agg (roomC x).toArray] w fun e w' => e = .returned (.int .i64 x.id) ∧ ∃ n os, w' = grow (w.drewN n) os := by
  simp only [roomC]
  go_enter Tryz.func35, Tryz.ntmps35
  go_wp2
  go_ret
  exact ⟨rfl, 0, _, by rw [alloc_eq_grow]; rfl⟩
theorem Tryz.en_roomId : ∀ args w, (callFunc 35 args).run Tryz.prog w = .ok (.enter 35 args) w := enters_of Tryz.func35 (by kernel_rfl) rfl
set_option maxHeartbeats 8000000 in
theorem cmpRoom_any {W : World} {q : Nat} (hq : W.cell? ⟨q, 0, none⟩ = some (.func (.func 35) #[] #[])) (x y : RoomM) :
    Calls Tryz.prog 111 #[.agg (roomC x).toArray, .agg (roomC y).toArray, .pointer (some ⟨q, 0, none⟩)] W fun e w' => e = .returned (.int .i64 (Lib.compareInt x.id y.id)) ∧ ∃ n os, w' = grow (W.drewN n) os := by
  have hql : q < W.heap.size := cell_lt hq
  obtain ⟨W2, hW2⟩ : ∃ W2, W2 = (W.alloc (.cells #[.int .i64 x.id, .string x.name, .int .i64 x.kind, .int .i64 x.price, .int .i64 x.e0, .int .i64 x.e1, .int .i64 x.e2, .int .i64 x.e3, .int .i64 x.e4, .int .i64 x.e5] 53)).alloc (.cells #[.int .i64 y.id, .string y.name, .int .i64 y.kind, .int .i64 y.price, .int .i64 y.e0, .int .i64 y.e1, .int .i64 y.e2, .int .i64 y.e3, .int .i64 y.e4, .int .i64 y.e5] 53) := ⟨_, rfl⟩
  have HWE := Lib.hid hW2
  have hk : Keep (fun _ => False) W W2 := by rw [hW2]; exact ((Keep.refl _ W).alloc _).alloc _
  have HX : Hid (W2.heap[W.heap.size]? = some (.cells #[.int .i64 x.id, .string x.name, .int .i64 x.kind, .int .i64 x.price, .int .i64 x.e0, .int .i64 x.e1, .int .i64 x.e2, .int .i64 x.e3, .int .i64 x.e4, .int .i64 x.e5] 53 (0, 0))) := Lib.hid (by
    rw [hW2]
    exact (((Keep.refl (fun _ => False) (W.alloc (.cells #[.int .i64 x.id, .string x.name, .int .i64 x.kind, .int .i64 x.price, .int .i64 x.e0, .int .i64 x.e1, .int .i64 x.e2, .int .i64 x.e3, .int .i64 x.e4, .int .i64 x.e5] 53))).alloc _).block W.heap.size (by simp) (fun h => h)).trans (heap_alloc_new W _))
  have HY : Hid (W2.heap[W.heap.size + 1]? = some (.cells #[.int .i64 y.id, .string y.name, .int .i64 y.kind, .int .i64 y.price, .int .i64 y.e0, .int .i64 y.e1, .int .i64 y.e2, .int .i64 y.e3, .int .i64 y.e4, .int .i64 y.e5] 53 (0, 0))) := Lib.hid (by
    rw [hW2]
    have := heap_alloc_new (W.alloc (.cells #[.int .i64 x.id, .string x.name, .int .i64 x.kind, .int .i64 x.price, .int .i64 x.e0, .int .i64 x.e1, .int .i64 x.e2, .int .i64 x.e3, .int .i64 x.e4, .int .i64 x.e5] 53)) (.cells #[.int .i64 y.id, .string y.name, .int .i64 y.kind, .int .i64 y.price, .int .i64 y.e0, .int .i64 y.e1, .int .i64 y.e2, .int .i64 y.e3, .int .i64 y.e4, .int .i64 y.e5] 53)
    simpa using this)
  have HL3 : Hid (W.heap.size < W2.heap.size) := Lib.hid (lt_of_block HX.out)
  have HL4 : Hid (W.heap.size + 1 < W2.heap.size) := Lib.hid (lt_of_block HY.out)
  have qq := fun n os => cell_grown (w := W2) (a := ⟨q, 0, none⟩) (Nat.lt_of_lt_of_le hql hk.size) ((hk.cell hql (fun h => h) 0).trans hq) n os
  have HG : Hid (∃ os, W2 = grow W os) := Lib.hid ⟨_, by rw [hW2, alloc_eq_grow, alloc_eq_grow, grow_grow]⟩
  have mixed := Tryz.mixedO
  simp only [roomC]
  clear hq hk
  go_enter Tryz.func111, Tryz.ntmps111
  go_wp2
  rw [← hW2]
  clear hW2
  generalize hb3 : W.heap.size = b3 at *
  generalize hb4 : b3 + 1 = b4 at *
  have x0 := fun n os => cell_grown (w := W2) (a := ⟨b3, 0, none⟩) (v := .int .i64 x.id) HL3.out (((cell_of_row W2 b3 0 _ _ _ HX.out).trans rfl)) n os
  have x1 := fun n os => cell_grown (w := W2) (a := ⟨b3, 1, none⟩) (v := .string x.name) HL3.out (((cell_of_row W2 b3 1 _ _ _ HX.out).trans rfl)) n os
  have x2 := fun n os => cell_grown (w := W2) (a := ⟨b3, 2, none⟩) (v := .int .i64 x.kind) HL3.out (((cell_of_row W2 b3 2 _ _ _ HX.out).trans rfl)) n os
  have x3 := fun n os => cell_grown (w := W2) (a := ⟨b3, 3, none⟩) (v := .int .i64 x.price) HL3.out (((cell_of_row W2 b3 3 _ _ _ HX.out).trans rfl)) n os
  have x4 := fun n os => cell_grown (w := W2) (a := ⟨b3, 4, none⟩) (v := .int .i64 x.e0) HL3.out (((cell_of_row W2 b3 4 _ _ _ HX.out).trans rfl)) n os
  have x5 := fun n os => cell_grown (w := W2) (a := ⟨b3, 5, none⟩) (v := .int .i64 x.e1) HL3.out (((cell_of_row W2 b3 5 _ _ _ HX.out).trans rfl)) n os
  have x6 := fun n os => cell_grown (w := W2) (a := ⟨b3, 6, none⟩) (v := .int .i64 x.e2) HL3.out (((cell_of_row W2 b3 6 _ _ _ HX.out).trans rfl)) n os
  have x7 := fun n os => cell_grown (w := W2) (a := ⟨b3, 7, none⟩) (v := .int .i64 x.e3) HL3.out (((cell_of_row W2 b3 7 _ _ _ HX.out).trans rfl)) n os
  have x8 := fun n os => cell_grown (w := W2) (a := ⟨b3, 8, none⟩) (v := .int .i64 x.e4) HL3.out (((cell_of_row W2 b3 8 _ _ _ HX.out).trans rfl)) n os
  have x9 := fun n os => cell_grown (w := W2) (a := ⟨b3, 9, none⟩) (v := .int .i64 x.e5) HL3.out (((cell_of_row W2 b3 9 _ _ _ HX.out).trans rfl)) n os
  have y0 := fun n os => cell_grown (w := W2) (a := ⟨b4, 0, none⟩) (v := .int .i64 y.id) HL4.out (((cell_of_row W2 b4 0 _ _ _ HY.out).trans rfl)) n os
  have y1 := fun n os => cell_grown (w := W2) (a := ⟨b4, 1, none⟩) (v := .string y.name) HL4.out (((cell_of_row W2 b4 1 _ _ _ HY.out).trans rfl)) n os
  have y2 := fun n os => cell_grown (w := W2) (a := ⟨b4, 2, none⟩) (v := .int .i64 y.kind) HL4.out (((cell_of_row W2 b4 2 _ _ _ HY.out).trans rfl)) n os
  have y3 := fun n os => cell_grown (w := W2) (a := ⟨b4, 3, none⟩) (v := .int .i64 y.price) HL4.out (((cell_of_row W2 b4 3 _ _ _ HY.out).trans rfl)) n os
  have y4 := fun n os => cell_grown (w := W2) (a := ⟨b4, 4, none⟩) (v := .int .i64 y.e0) HL4.out (((cell_of_row W2 b4 4 _ _ _ HY.out).trans rfl)) n os
  have y5 := fun n os => cell_grown (w := W2) (a := ⟨b4, 5, none⟩) (v := .int .i64 y.e1) HL4.out (((cell_of_row W2 b4 5 _ _ _ HY.out).trans rfl)) n os
  have y6 := fun n os => cell_grown (w := W2) (a := ⟨b4, 6, none⟩) (v := .int .i64 y.e2) HL4.out (((cell_of_row W2 b4 6 _ _ _ HY.out).trans rfl)) n os
  have y7 := fun n os => cell_grown (w := W2) (a := ⟨b4, 7, none⟩) (v := .int .i64 y.e3) HL4.out (((cell_of_row W2 b4 7 _ _ _ HY.out).trans rfl)) n os
  have y8 := fun n os => cell_grown (w := W2) (a := ⟨b4, 8, none⟩) (v := .int .i64 y.e4) HL4.out (((cell_of_row W2 b4 8 _ _ _ HY.out).trans rfl)) n os
  have y9 := fun n os => cell_grown (w := W2) (a := ⟨b4, 9, none⟩) (v := .int .i64 y.e5) HL4.out (((cell_of_row W2 b4 9 _ _ _ HY.out).trans rfl)) n os
  go_quiet_grown (first
    | (go_at_call 35; exact Calls.grown_of (roomId_any _))
    | (go_at_call 112; exact Calls.grown_of ((cmpI_any _ _).mono fun _ _ hh => ⟨hh.1, 0, #[], by rw [hh.2, grow_empty]; rfl⟩)))
  go_wp2
  go_ret
  obtain ⟨os1, ho⟩ := HG.out
  exact ⟨rfl, nq, os1 ++ osq, by rw [ho]; show grow (grow (W.drewN nq) os1) osq = _; rw [grow_grow]⟩
theorem Tryz.en_cmpRoom : ∀ args w, (callFunc 111 args).run Tryz.prog w = .ok (.enter 111 args) w := enters_of Tryz.func111 (by kernel_rfl) rfl

theorem protoC_lenA (x : ProtoM) : (protoC x).length = 5 := rfl
theorem protoC_one (x : ProtoM) : ∀ v ∈ protoC x, v.oneCell' = true := by
  intro v hv
  simp only [protoC, List.mem_cons, List.not_mem_nil, or_false] at hv
  rcases hv with rfl | rfl | rfl | rfl | rfl <;> rfl
theorem protoId_any {w : World} (x : ProtoM) : Calls Tryz.prog 61 #[.agg (protoC x).toArray] w fun e w' => e = .returned (.int .i64 x.id) ∧ ∃ n os, w' = grow (w.drewN n) os := by
  simp only [protoC]
  go_enter Tryz.func61, Tryz.ntmps61
  go_wp2
  go_ret
  exact ⟨rfl, 0, _, by rw [alloc_eq_grow]; rfl⟩
theorem Tryz.en_protoId : ∀ args w, (callFunc 61 args).run Tryz.prog w = .ok (.enter 61 args) w := enters_of Tryz.func61 (by kernel_rfl) rfl
set_option maxHeartbeats 8000000 in
theorem cmpProto_any {W : World} {q : Nat} (hq : W.cell? ⟨q, 0, none⟩ = some (.func (.func 61) #[] #[])) (x y : ProtoM) :
    Calls Tryz.prog 114 #[.agg (protoC x).toArray, .agg (protoC y).toArray, .pointer (some ⟨q, 0, none⟩)] W fun e w' => e = .returned (.int .i64 (Lib.compareInt x.id y.id)) ∧ ∃ n os, w' = grow (W.drewN n) os := by
  have hql : q < W.heap.size := cell_lt hq
  obtain ⟨W2, hW2⟩ : ∃ W2, W2 = (W.alloc (.cells #[.int .i64 x.id, .string x.name, .int .i64 x.slot, .int .i64 x.power, .int .i64 x.price] 78)).alloc (.cells #[.int .i64 y.id, .string y.name, .int .i64 y.slot, .int .i64 y.power, .int .i64 y.price] 78) := ⟨_, rfl⟩
  have HWE := Lib.hid hW2
  have hk : Keep (fun _ => False) W W2 := by rw [hW2]; exact ((Keep.refl _ W).alloc _).alloc _
  have HX : Hid (W2.heap[W.heap.size]? = some (.cells #[.int .i64 x.id, .string x.name, .int .i64 x.slot, .int .i64 x.power, .int .i64 x.price] 78 (0, 0))) := Lib.hid (by
    rw [hW2]
    exact (((Keep.refl (fun _ => False) (W.alloc (.cells #[.int .i64 x.id, .string x.name, .int .i64 x.slot, .int .i64 x.power, .int .i64 x.price] 78))).alloc _).block W.heap.size (by simp) (fun h => h)).trans (heap_alloc_new W _))
  have HY : Hid (W2.heap[W.heap.size + 1]? = some (.cells #[.int .i64 y.id, .string y.name, .int .i64 y.slot, .int .i64 y.power, .int .i64 y.price] 78 (0, 0))) := Lib.hid (by
    rw [hW2]
    have := heap_alloc_new (W.alloc (.cells #[.int .i64 x.id, .string x.name, .int .i64 x.slot, .int .i64 x.power, .int .i64 x.price] 78)) (.cells #[.int .i64 y.id, .string y.name, .int .i64 y.slot, .int .i64 y.power, .int .i64 y.price] 78)
    simpa using this)
  have HL3 : Hid (W.heap.size < W2.heap.size) := Lib.hid (lt_of_block HX.out)
  have HL4 : Hid (W.heap.size + 1 < W2.heap.size) := Lib.hid (lt_of_block HY.out)
  have qq := fun n os => cell_grown (w := W2) (a := ⟨q, 0, none⟩) (Nat.lt_of_lt_of_le hql hk.size) ((hk.cell hql (fun h => h) 0).trans hq) n os
  have HG : Hid (∃ os, W2 = grow W os) := Lib.hid ⟨_, by rw [hW2, alloc_eq_grow, alloc_eq_grow, grow_grow]⟩
  have mixed := Tryz.mixedO
  simp only [protoC]
  clear hq hk
  go_enter Tryz.func114, Tryz.ntmps114
  go_wp2
  rw [← hW2]
  clear hW2
  generalize hb3 : W.heap.size = b3 at *
  generalize hb4 : b3 + 1 = b4 at *
  have x0 := fun n os => cell_grown (w := W2) (a := ⟨b3, 0, none⟩) (v := .int .i64 x.id) HL3.out (((cell_of_row W2 b3 0 _ _ _ HX.out).trans rfl)) n os
  have x1 := fun n os => cell_grown (w := W2) (a := ⟨b3, 1, none⟩) (v := .string x.name) HL3.out (((cell_of_row W2 b3 1 _ _ _ HX.out).trans rfl)) n os
  have x2 := fun n os => cell_grown (w := W2) (a := ⟨b3, 2, none⟩) (v := .int .i64 x.slot) HL3.out (((cell_of_row W2 b3 2 _ _ _ HX.out).trans rfl)) n os
  have x3 := fun n os => cell_grown (w := W2) (a := ⟨b3, 3, none⟩) (v := .int .i64 x.power) HL3.out (((cell_of_row W2 b3 3 _ _ _ HX.out).trans rfl)) n os
  have x4 := fun n os => cell_grown (w := W2) (a := ⟨b3, 4, none⟩) (v := .int .i64 x.price) HL3.out (((cell_of_row W2 b3 4 _ _ _ HX.out).trans rfl)) n os
  have y0 := fun n os => cell_grown (w := W2) (a := ⟨b4, 0, none⟩) (v := .int .i64 y.id) HL4.out (((cell_of_row W2 b4 0 _ _ _ HY.out).trans rfl)) n os
  have y1 := fun n os => cell_grown (w := W2) (a := ⟨b4, 1, none⟩) (v := .string y.name) HL4.out (((cell_of_row W2 b4 1 _ _ _ HY.out).trans rfl)) n os
  have y2 := fun n os => cell_grown (w := W2) (a := ⟨b4, 2, none⟩) (v := .int .i64 y.slot) HL4.out (((cell_of_row W2 b4 2 _ _ _ HY.out).trans rfl)) n os
  have y3 := fun n os => cell_grown (w := W2) (a := ⟨b4, 3, none⟩) (v := .int .i64 y.power) HL4.out (((cell_of_row W2 b4 3 _ _ _ HY.out).trans rfl)) n os
  have y4 := fun n os => cell_grown (w := W2) (a := ⟨b4, 4, none⟩) (v := .int .i64 y.price) HL4.out (((cell_of_row W2 b4 4 _ _ _ HY.out).trans rfl)) n os
  go_quiet_grown (first
    | (go_at_call 61; exact Calls.grown_of (protoId_any _))
    | (go_at_call 112; exact Calls.grown_of ((cmpI_any _ _).mono fun _ _ hh => ⟨hh.1, 0, #[], by rw [hh.2, grow_empty]; rfl⟩)))
  go_wp2
  go_ret
  obtain ⟨os1, ho⟩ := HG.out
  exact ⟨rfl, nq, os1 ++ osq, by rw [ho]; show grow (grow (W.drewN nq) os1) osq = _; rw [grow_grow]⟩
theorem Tryz.en_cmpProto : ∀ args w, (callFunc 114 args).run Tryz.prog w = .ok (.enter 114 args) w := enters_of Tryz.func114 (by kernel_rfl) rfl

theorem mobpC_lenA (x : MobPM) : (mobpC x).length = 7 := rfl
theorem mobpC_one (x : MobPM) : ∀ v ∈ mobpC x, v.oneCell' = true := by
  intro v hv
  simp only [mobpC, List.mem_cons, List.not_mem_nil, or_false] at hv
  rcases hv with rfl | rfl | rfl | rfl | rfl | rfl | rfl <;> rfl
theorem mobId_any {w : World} (x : MobPM) : Calls Tryz.prog 63 #[.agg (mobpC x).toArray] w fun e w' => e = .returned (.int .i64 x.id) ∧ ∃ n os, w' = grow (w.drewN n) os := by
  simp only [mobpC]
  go_enter Tryz.func63, Tryz.ntmps63
  go_wp2
  go_ret
  exact ⟨rfl, 0, _, by rw [alloc_eq_grow]; rfl⟩
theorem Tryz.en_mobId : ∀ args w, (callFunc 63 args).run Tryz.prog w = .ok (.enter 63 args) w := enters_of Tryz.func63 (by kernel_rfl) rfl
set_option maxHeartbeats 8000000 in
theorem cmpMob_any {W : World} {q : Nat} (hq : W.cell? ⟨q, 0, none⟩ = some (.func (.func 63) #[] #[])) (x y : MobPM) :
    Calls Tryz.prog 116 #[.agg (mobpC x).toArray, .agg (mobpC y).toArray, .pointer (some ⟨q, 0, none⟩)] W fun e w' => e = .returned (.int .i64 (Lib.compareInt x.id y.id)) ∧ ∃ n os, w' = grow (W.drewN n) os := by
  have hql : q < W.heap.size := cell_lt hq
  obtain ⟨W2, hW2⟩ : ∃ W2, W2 = (W.alloc (.cells #[.int .i64 x.id, .string x.name, .int .i64 x.home, .int .i64 x.hp, .int .i64 x.power, .int .i64 x.xp, .int .i64 x.gold] 80)).alloc (.cells #[.int .i64 y.id, .string y.name, .int .i64 y.home, .int .i64 y.hp, .int .i64 y.power, .int .i64 y.xp, .int .i64 y.gold] 80) := ⟨_, rfl⟩
  have HWE := Lib.hid hW2
  have hk : Keep (fun _ => False) W W2 := by rw [hW2]; exact ((Keep.refl _ W).alloc _).alloc _
  have HX : Hid (W2.heap[W.heap.size]? = some (.cells #[.int .i64 x.id, .string x.name, .int .i64 x.home, .int .i64 x.hp, .int .i64 x.power, .int .i64 x.xp, .int .i64 x.gold] 80 (0, 0))) := Lib.hid (by
    rw [hW2]
    exact (((Keep.refl (fun _ => False) (W.alloc (.cells #[.int .i64 x.id, .string x.name, .int .i64 x.home, .int .i64 x.hp, .int .i64 x.power, .int .i64 x.xp, .int .i64 x.gold] 80))).alloc _).block W.heap.size (by simp) (fun h => h)).trans (heap_alloc_new W _))
  have HY : Hid (W2.heap[W.heap.size + 1]? = some (.cells #[.int .i64 y.id, .string y.name, .int .i64 y.home, .int .i64 y.hp, .int .i64 y.power, .int .i64 y.xp, .int .i64 y.gold] 80 (0, 0))) := Lib.hid (by
    rw [hW2]
    have := heap_alloc_new (W.alloc (.cells #[.int .i64 x.id, .string x.name, .int .i64 x.home, .int .i64 x.hp, .int .i64 x.power, .int .i64 x.xp, .int .i64 x.gold] 80)) (.cells #[.int .i64 y.id, .string y.name, .int .i64 y.home, .int .i64 y.hp, .int .i64 y.power, .int .i64 y.xp, .int .i64 y.gold] 80)
    simpa using this)
  have HL3 : Hid (W.heap.size < W2.heap.size) := Lib.hid (lt_of_block HX.out)
  have HL4 : Hid (W.heap.size + 1 < W2.heap.size) := Lib.hid (lt_of_block HY.out)
  have qq := fun n os => cell_grown (w := W2) (a := ⟨q, 0, none⟩) (Nat.lt_of_lt_of_le hql hk.size) ((hk.cell hql (fun h => h) 0).trans hq) n os
  have HG : Hid (∃ os, W2 = grow W os) := Lib.hid ⟨_, by rw [hW2, alloc_eq_grow, alloc_eq_grow, grow_grow]⟩
  have mixed := Tryz.mixedO
  simp only [mobpC]
  clear hq hk
  go_enter Tryz.func116, Tryz.ntmps116
  go_wp2
  rw [← hW2]
  clear hW2
  generalize hb3 : W.heap.size = b3 at *
  generalize hb4 : b3 + 1 = b4 at *
  have x0 := fun n os => cell_grown (w := W2) (a := ⟨b3, 0, none⟩) (v := .int .i64 x.id) HL3.out (((cell_of_row W2 b3 0 _ _ _ HX.out).trans rfl)) n os
  have x1 := fun n os => cell_grown (w := W2) (a := ⟨b3, 1, none⟩) (v := .string x.name) HL3.out (((cell_of_row W2 b3 1 _ _ _ HX.out).trans rfl)) n os
  have x2 := fun n os => cell_grown (w := W2) (a := ⟨b3, 2, none⟩) (v := .int .i64 x.home) HL3.out (((cell_of_row W2 b3 2 _ _ _ HX.out).trans rfl)) n os
  have x3 := fun n os => cell_grown (w := W2) (a := ⟨b3, 3, none⟩) (v := .int .i64 x.hp) HL3.out (((cell_of_row W2 b3 3 _ _ _ HX.out).trans rfl)) n os
  have x4 := fun n os => cell_grown (w := W2) (a := ⟨b3, 4, none⟩) (v := .int .i64 x.power) HL3.out (((cell_of_row W2 b3 4 _ _ _ HX.out).trans rfl)) n os
  have x5 := fun n os => cell_grown (w := W2) (a := ⟨b3, 5, none⟩) (v := .int .i64 x.xp) HL3.out (((cell_of_row W2 b3 5 _ _ _ HX.out).trans rfl)) n os
  have x6 := fun n os => cell_grown (w := W2) (a := ⟨b3, 6, none⟩) (v := .int .i64 x.gold) HL3.out (((cell_of_row W2 b3 6 _ _ _ HX.out).trans rfl)) n os
  have y0 := fun n os => cell_grown (w := W2) (a := ⟨b4, 0, none⟩) (v := .int .i64 y.id) HL4.out (((cell_of_row W2 b4 0 _ _ _ HY.out).trans rfl)) n os
  have y1 := fun n os => cell_grown (w := W2) (a := ⟨b4, 1, none⟩) (v := .string y.name) HL4.out (((cell_of_row W2 b4 1 _ _ _ HY.out).trans rfl)) n os
  have y2 := fun n os => cell_grown (w := W2) (a := ⟨b4, 2, none⟩) (v := .int .i64 y.home) HL4.out (((cell_of_row W2 b4 2 _ _ _ HY.out).trans rfl)) n os
  have y3 := fun n os => cell_grown (w := W2) (a := ⟨b4, 3, none⟩) (v := .int .i64 y.hp) HL4.out (((cell_of_row W2 b4 3 _ _ _ HY.out).trans rfl)) n os
  have y4 := fun n os => cell_grown (w := W2) (a := ⟨b4, 4, none⟩) (v := .int .i64 y.power) HL4.out (((cell_of_row W2 b4 4 _ _ _ HY.out).trans rfl)) n os
  have y5 := fun n os => cell_grown (w := W2) (a := ⟨b4, 5, none⟩) (v := .int .i64 y.xp) HL4.out (((cell_of_row W2 b4 5 _ _ _ HY.out).trans rfl)) n os
  have y6 := fun n os => cell_grown (w := W2) (a := ⟨b4, 6, none⟩) (v := .int .i64 y.gold) HL4.out (((cell_of_row W2 b4 6 _ _ _ HY.out).trans rfl)) n os
  go_quiet_grown (first
    | (go_at_call 63; exact Calls.grown_of (mobId_any _))
    | (go_at_call 112; exact Calls.grown_of ((cmpI_any _ _).mono fun _ _ hh => ⟨hh.1, 0, #[], by rw [hh.2, grow_empty]; rfl⟩)))
  go_wp2
  go_ret
  obtain ⟨os1, ho⟩ := HG.out
  exact ⟨rfl, nq, os1 ++ osq, by rw [ho]; show grow (grow (W.drewN nq) os1) osq = _; rw [grow_grow]⟩
theorem Tryz.en_cmpMob : ∀ args w, (callFunc 116 args).run Tryz.prog w = .ok (.enter 116 args) w := enters_of Tryz.func116 (by kernel_rfl) rfl

theorem recS_lenA (x : RecM × SlV) : (recS x).length = 2 := rfl
theorem recS_one (x : RecM × SlV) : ∀ v ∈ recS x, v.oneCell' = true := by
  intro v hv
  simp only [recS, List.mem_cons, List.not_mem_nil, or_false] at hv
  rcases hv with rfl | rfl <;> rfl
theorem recipeId_any {w : World} (x : RecM × SlV) : Calls Tryz.prog 65 #[.agg (recS x).toArray] w fun e w' => e = .returned (.int .i64 x.1.out) ∧ ∃ n os, w' = grow (w.drewN n) os := by
  simp only [recS]
  go_enter Tryz.func65, Tryz.ntmps65
  go_wp2
  go_ret
  exact ⟨rfl, 0, _, by rw [alloc_eq_grow]; rfl⟩
theorem Tryz.en_recipeId : ∀ args w, (callFunc 65 args).run Tryz.prog w = .ok (.enter 65 args) w := enters_of Tryz.func65 (by kernel_rfl) rfl
set_option maxHeartbeats 8000000 in
theorem cmpRec_any {W : World} {q : Nat} (hq : W.cell? ⟨q, 0, none⟩ = some (.func (.func 65) #[] #[])) (x y : RecM × SlV) :
    Calls Tryz.prog 118 #[.agg (recS x).toArray, .agg (recS y).toArray, .pointer (some ⟨q, 0, none⟩)] W fun e w' => e = .returned (.int .i64 (Lib.compareInt x.1.out y.1.out)) ∧ ∃ n os, w' = grow (W.drewN n) os := by
  have hql : q < W.heap.size := cell_lt hq
  obtain ⟨W2, hW2⟩ : ∃ W2, W2 = (W.alloc (.cells #[.int .i64 x.1.out, .slice x.2.a x.2.n x.2.c] 83)).alloc (.cells #[.int .i64 y.1.out, .slice y.2.a y.2.n y.2.c] 83) := ⟨_, rfl⟩
  have HWE := Lib.hid hW2
  have hk : Keep (fun _ => False) W W2 := by rw [hW2]; exact ((Keep.refl _ W).alloc _).alloc _
  have HX : Hid (W2.heap[W.heap.size]? = some (.cells #[.int .i64 x.1.out, .slice x.2.a x.2.n x.2.c] 83 (0, 0))) := Lib.hid (by
    rw [hW2]
    exact (((Keep.refl (fun _ => False) (W.alloc (.cells #[.int .i64 x.1.out, .slice x.2.a x.2.n x.2.c] 83))).alloc _).block W.heap.size (by simp) (fun h => h)).trans (heap_alloc_new W _))
  have HY : Hid (W2.heap[W.heap.size + 1]? = some (.cells #[.int .i64 y.1.out, .slice y.2.a y.2.n y.2.c] 83 (0, 0))) := Lib.hid (by
    rw [hW2]
    have := heap_alloc_new (W.alloc (.cells #[.int .i64 x.1.out, .slice x.2.a x.2.n x.2.c] 83)) (.cells #[.int .i64 y.1.out, .slice y.2.a y.2.n y.2.c] 83)
    simpa using this)
  have HL3 : Hid (W.heap.size < W2.heap.size) := Lib.hid (lt_of_block HX.out)
  have HL4 : Hid (W.heap.size + 1 < W2.heap.size) := Lib.hid (lt_of_block HY.out)
  have qq := fun n os => cell_grown (w := W2) (a := ⟨q, 0, none⟩) (Nat.lt_of_lt_of_le hql hk.size) ((hk.cell hql (fun h => h) 0).trans hq) n os
  have HG : Hid (∃ os, W2 = grow W os) := Lib.hid ⟨_, by rw [hW2, alloc_eq_grow, alloc_eq_grow, grow_grow]⟩
  have mixed := Tryz.mixedO
  simp only [recS]
  clear hq hk
  go_enter Tryz.func118, Tryz.ntmps118
  go_wp2
  rw [← hW2]
  clear hW2
  generalize hb3 : W.heap.size = b3 at *
  generalize hb4 : b3 + 1 = b4 at *
  have x0 := fun n os => cell_grown (w := W2) (a := ⟨b3, 0, none⟩) (v := .int .i64 x.1.out) HL3.out (((cell_of_row W2 b3 0 _ _ _ HX.out).trans rfl)) n os
  have x1 := fun n os => cell_grown (w := W2) (a := ⟨b3, 1, none⟩) (v := .slice x.2.a x.2.n x.2.c) HL3.out (((cell_of_row W2 b3 1 _ _ _ HX.out).trans rfl)) n os
  have y0 := fun n os => cell_grown (w := W2) (a := ⟨b4, 0, none⟩) (v := .int .i64 y.1.out) HL4.out (((cell_of_row W2 b4 0 _ _ _ HY.out).trans rfl)) n os
  have y1 := fun n os => cell_grown (w := W2) (a := ⟨b4, 1, none⟩) (v := .slice y.2.a y.2.n y.2.c) HL4.out (((cell_of_row W2 b4 1 _ _ _ HY.out).trans rfl)) n os
  go_quiet_grown (first
    | (go_at_call 65; exact Calls.grown_of (recipeId_any _))
    | (go_at_call 112; exact Calls.grown_of ((cmpI_any _ _).mono fun _ _ hh => ⟨hh.1, 0, #[], by rw [hh.2, grow_empty]; rfl⟩)))
  go_wp2
  go_ret
  obtain ⟨os1, ho⟩ := HG.out
  exact ⟨rfl, nq, os1 ++ osq, by rw [ho]; show grow (grow (W.drewN nq) os1) osq = _; rw [grow_grow]⟩
theorem Tryz.en_cmpRec : ∀ args w, (callFunc 118 args).run Tryz.prog w = .ok (.enter 118 args) w := enters_of Tryz.func118 (by kernel_rfl) rfl

theorem questC_lenA (x : QuestM) : (questC x).length = 5 := rfl
theorem questC_one (x : QuestM) : ∀ v ∈ questC x, v.oneCell' = true := by
  intro v hv
  simp only [questC, List.mem_cons, List.not_mem_nil, or_false] at hv
  rcases hv with rfl | rfl | rfl | rfl | rfl <;> rfl
theorem questId_any {w : World} (x : QuestM) : Calls Tryz.prog 67 #[.agg (questC x).toArray] w fun e w' => e = .returned (.int .i64 x.id) ∧ ∃ n os, w' = grow (w.drewN n) os := by
  simp only [questC]
  go_enter Tryz.func67, Tryz.ntmps67
  go_wp2
  go_ret
  exact ⟨rfl, 0, _, by rw [alloc_eq_grow]; rfl⟩
theorem Tryz.en_questId : ∀ args w, (callFunc 67 args).run Tryz.prog w = .ok (.enter 67 args) w := enters_of Tryz.func67 (by kernel_rfl) rfl
set_option maxHeartbeats 8000000 in
theorem cmpQuest_any {W : World} {q : Nat} (hq : W.cell? ⟨q, 0, none⟩ = some (.func (.func 67) #[] #[])) (x y : QuestM) :
    Calls Tryz.prog 120 #[.agg (questC x).toArray, .agg (questC y).toArray, .pointer (some ⟨q, 0, none⟩)] W fun e w' => e = .returned (.int .i64 (Lib.compareInt x.id y.id)) ∧ ∃ n os, w' = grow (W.drewN n) os := by
  have hql : q < W.heap.size := cell_lt hq
  obtain ⟨W2, hW2⟩ : ∃ W2, W2 = (W.alloc (.cells #[.int .i64 x.id, .int .i64 x.item, .int .i64 x.count, .int .i64 x.gold, .int .i64 x.reward] 86)).alloc (.cells #[.int .i64 y.id, .int .i64 y.item, .int .i64 y.count, .int .i64 y.gold, .int .i64 y.reward] 86) := ⟨_, rfl⟩
  have HWE := Lib.hid hW2
  have hk : Keep (fun _ => False) W W2 := by rw [hW2]; exact ((Keep.refl _ W).alloc _).alloc _
  have HX : Hid (W2.heap[W.heap.size]? = some (.cells #[.int .i64 x.id, .int .i64 x.item, .int .i64 x.count, .int .i64 x.gold, .int .i64 x.reward] 86 (0, 0))) := Lib.hid (by
    rw [hW2]
    exact (((Keep.refl (fun _ => False) (W.alloc (.cells #[.int .i64 x.id, .int .i64 x.item, .int .i64 x.count, .int .i64 x.gold, .int .i64 x.reward] 86))).alloc _).block W.heap.size (by simp) (fun h => h)).trans (heap_alloc_new W _))
  have HY : Hid (W2.heap[W.heap.size + 1]? = some (.cells #[.int .i64 y.id, .int .i64 y.item, .int .i64 y.count, .int .i64 y.gold, .int .i64 y.reward] 86 (0, 0))) := Lib.hid (by
    rw [hW2]
    have := heap_alloc_new (W.alloc (.cells #[.int .i64 x.id, .int .i64 x.item, .int .i64 x.count, .int .i64 x.gold, .int .i64 x.reward] 86)) (.cells #[.int .i64 y.id, .int .i64 y.item, .int .i64 y.count, .int .i64 y.gold, .int .i64 y.reward] 86)
    simpa using this)
  have HL3 : Hid (W.heap.size < W2.heap.size) := Lib.hid (lt_of_block HX.out)
  have HL4 : Hid (W.heap.size + 1 < W2.heap.size) := Lib.hid (lt_of_block HY.out)
  have qq := fun n os => cell_grown (w := W2) (a := ⟨q, 0, none⟩) (Nat.lt_of_lt_of_le hql hk.size) ((hk.cell hql (fun h => h) 0).trans hq) n os
  have HG : Hid (∃ os, W2 = grow W os) := Lib.hid ⟨_, by rw [hW2, alloc_eq_grow, alloc_eq_grow, grow_grow]⟩
  have mixed := Tryz.mixedO
  simp only [questC]
  clear hq hk
  go_enter Tryz.func120, Tryz.ntmps120
  go_wp2
  rw [← hW2]
  clear hW2
  generalize hb3 : W.heap.size = b3 at *
  generalize hb4 : b3 + 1 = b4 at *
  have x0 := fun n os => cell_grown (w := W2) (a := ⟨b3, 0, none⟩) (v := .int .i64 x.id) HL3.out (((cell_of_row W2 b3 0 _ _ _ HX.out).trans rfl)) n os
  have x1 := fun n os => cell_grown (w := W2) (a := ⟨b3, 1, none⟩) (v := .int .i64 x.item) HL3.out (((cell_of_row W2 b3 1 _ _ _ HX.out).trans rfl)) n os
  have x2 := fun n os => cell_grown (w := W2) (a := ⟨b3, 2, none⟩) (v := .int .i64 x.count) HL3.out (((cell_of_row W2 b3 2 _ _ _ HX.out).trans rfl)) n os
  have x3 := fun n os => cell_grown (w := W2) (a := ⟨b3, 3, none⟩) (v := .int .i64 x.gold) HL3.out (((cell_of_row W2 b3 3 _ _ _ HX.out).trans rfl)) n os
  have x4 := fun n os => cell_grown (w := W2) (a := ⟨b3, 4, none⟩) (v := .int .i64 x.reward) HL3.out (((cell_of_row W2 b3 4 _ _ _ HX.out).trans rfl)) n os
  have y0 := fun n os => cell_grown (w := W2) (a := ⟨b4, 0, none⟩) (v := .int .i64 y.id) HL4.out (((cell_of_row W2 b4 0 _ _ _ HY.out).trans rfl)) n os
  have y1 := fun n os => cell_grown (w := W2) (a := ⟨b4, 1, none⟩) (v := .int .i64 y.item) HL4.out (((cell_of_row W2 b4 1 _ _ _ HY.out).trans rfl)) n os
  have y2 := fun n os => cell_grown (w := W2) (a := ⟨b4, 2, none⟩) (v := .int .i64 y.count) HL4.out (((cell_of_row W2 b4 2 _ _ _ HY.out).trans rfl)) n os
  have y3 := fun n os => cell_grown (w := W2) (a := ⟨b4, 3, none⟩) (v := .int .i64 y.gold) HL4.out (((cell_of_row W2 b4 3 _ _ _ HY.out).trans rfl)) n os
  have y4 := fun n os => cell_grown (w := W2) (a := ⟨b4, 4, none⟩) (v := .int .i64 y.reward) HL4.out (((cell_of_row W2 b4 4 _ _ _ HY.out).trans rfl)) n os
  go_quiet_grown (first
    | (go_at_call 67; exact Calls.grown_of (questId_any _))
    | (go_at_call 112; exact Calls.grown_of ((cmpI_any _ _).mono fun _ _ hh => ⟨hh.1, 0, #[], by rw [hh.2, grow_empty]; rfl⟩)))
  go_wp2
  go_ret
  obtain ⟨os1, ho⟩ := HG.out
  exact ⟨rfl, nq, os1 ++ osq, by rw [ho]; show grow (grow (W.drewN nq) os1) osq = _; rw [grow_grow]⟩
theorem Tryz.en_cmpQuest : ∀ args w, (callFunc 120 args).run Tryz.prog w = .ok (.enter 120 args) w := enters_of Tryz.func120 (by kernel_rfl) rfl

theorem shopS_lenA (x : ShopM × SlV) : (shopS x).length = 3 := rfl
theorem shopS_one (x : ShopM × SlV) : ∀ v ∈ shopS x, v.oneCell' = true := by
  intro v hv
  simp only [shopS, List.mem_cons, List.not_mem_nil, or_false] at hv
  rcases hv with rfl | rfl | rfl <;> rfl
theorem shopId_any {w : World} (x : ShopM × SlV) : Calls Tryz.prog 69 #[.agg (shopS x).toArray] w fun e w' => e = .returned (.int .i64 x.1.room) ∧ ∃ n os, w' = grow (w.drewN n) os := by
  simp only [shopS]
  go_enter Tryz.func69, Tryz.ntmps69
  go_wp2
  go_ret
  exact ⟨rfl, 0, _, by rw [alloc_eq_grow]; rfl⟩
theorem Tryz.en_shopId : ∀ args w, (callFunc 69 args).run Tryz.prog w = .ok (.enter 69 args) w := enters_of Tryz.func69 (by kernel_rfl) rfl
set_option maxHeartbeats 8000000 in
theorem cmpShop_any {W : World} {q : Nat} (hq : W.cell? ⟨q, 0, none⟩ = some (.func (.func 69) #[] #[])) (x y : ShopM × SlV) :
    Calls Tryz.prog 122 #[.agg (shopS x).toArray, .agg (shopS y).toArray, .pointer (some ⟨q, 0, none⟩)] W fun e w' => e = .returned (.int .i64 (Lib.compareInt x.1.room y.1.room)) ∧ ∃ n os, w' = grow (W.drewN n) os := by
  have hql : q < W.heap.size := cell_lt hq
  obtain ⟨W2, hW2⟩ : ∃ W2, W2 = (W.alloc (.cells #[.int .i64 x.1.room, .int .i64 x.1.till, .slice x.2.a x.2.n x.2.c] 88)).alloc (.cells #[.int .i64 y.1.room, .int .i64 y.1.till, .slice y.2.a y.2.n y.2.c] 88) := ⟨_, rfl⟩
  have HWE := Lib.hid hW2
  have hk : Keep (fun _ => False) W W2 := by rw [hW2]; exact ((Keep.refl _ W).alloc _).alloc _
  have HX : Hid (W2.heap[W.heap.size]? = some (.cells #[.int .i64 x.1.room, .int .i64 x.1.till, .slice x.2.a x.2.n x.2.c] 88 (0, 0))) := Lib.hid (by
    rw [hW2]
    exact (((Keep.refl (fun _ => False) (W.alloc (.cells #[.int .i64 x.1.room, .int .i64 x.1.till, .slice x.2.a x.2.n x.2.c] 88))).alloc _).block W.heap.size (by simp) (fun h => h)).trans (heap_alloc_new W _))
  have HY : Hid (W2.heap[W.heap.size + 1]? = some (.cells #[.int .i64 y.1.room, .int .i64 y.1.till, .slice y.2.a y.2.n y.2.c] 88 (0, 0))) := Lib.hid (by
    rw [hW2]
    have := heap_alloc_new (W.alloc (.cells #[.int .i64 x.1.room, .int .i64 x.1.till, .slice x.2.a x.2.n x.2.c] 88)) (.cells #[.int .i64 y.1.room, .int .i64 y.1.till, .slice y.2.a y.2.n y.2.c] 88)
    simpa using this)
  have HL3 : Hid (W.heap.size < W2.heap.size) := Lib.hid (lt_of_block HX.out)
  have HL4 : Hid (W.heap.size + 1 < W2.heap.size) := Lib.hid (lt_of_block HY.out)
  have qq := fun n os => cell_grown (w := W2) (a := ⟨q, 0, none⟩) (Nat.lt_of_lt_of_le hql hk.size) ((hk.cell hql (fun h => h) 0).trans hq) n os
  have HG : Hid (∃ os, W2 = grow W os) := Lib.hid ⟨_, by rw [hW2, alloc_eq_grow, alloc_eq_grow, grow_grow]⟩
  have mixed := Tryz.mixedO
  simp only [shopS]
  clear hq hk
  go_enter Tryz.func122, Tryz.ntmps122
  go_wp2
  rw [← hW2]
  clear hW2
  generalize hb3 : W.heap.size = b3 at *
  generalize hb4 : b3 + 1 = b4 at *
  have x0 := fun n os => cell_grown (w := W2) (a := ⟨b3, 0, none⟩) (v := .int .i64 x.1.room) HL3.out (((cell_of_row W2 b3 0 _ _ _ HX.out).trans rfl)) n os
  have x1 := fun n os => cell_grown (w := W2) (a := ⟨b3, 1, none⟩) (v := .int .i64 x.1.till) HL3.out (((cell_of_row W2 b3 1 _ _ _ HX.out).trans rfl)) n os
  have x2 := fun n os => cell_grown (w := W2) (a := ⟨b3, 2, none⟩) (v := .slice x.2.a x.2.n x.2.c) HL3.out (((cell_of_row W2 b3 2 _ _ _ HX.out).trans rfl)) n os
  have y0 := fun n os => cell_grown (w := W2) (a := ⟨b4, 0, none⟩) (v := .int .i64 y.1.room) HL4.out (((cell_of_row W2 b4 0 _ _ _ HY.out).trans rfl)) n os
  have y1 := fun n os => cell_grown (w := W2) (a := ⟨b4, 1, none⟩) (v := .int .i64 y.1.till) HL4.out (((cell_of_row W2 b4 1 _ _ _ HY.out).trans rfl)) n os
  have y2 := fun n os => cell_grown (w := W2) (a := ⟨b4, 2, none⟩) (v := .slice y.2.a y.2.n y.2.c) HL4.out (((cell_of_row W2 b4 2 _ _ _ HY.out).trans rfl)) n os
  go_quiet_grown (first
    | (go_at_call 69; exact Calls.grown_of (shopId_any _))
    | (go_at_call 112; exact Calls.grown_of ((cmpI_any _ _).mono fun _ _ hh => ⟨hh.1, 0, #[], by rw [hh.2, grow_empty]; rfl⟩)))
  go_wp2
  go_ret
  obtain ⟨os1, ho⟩ := HG.out
  exact ⟨rfl, nq, os1 ++ osq, by rw [ho]; show grow (grow (W.drewN nq) os1) osq = _; rw [grow_grow]⟩
theorem Tryz.en_cmpShop : ∀ args w, (callFunc 122 args).run Tryz.prog w = .ok (.enter 122 args) w := enters_of Tryz.func122 (by kernel_rfl) rfl
end Go.Proofs.YtcodbomgodkcmaaGreatDoor.Wd
