/- World files: is all there that tables name? The program's isClosed. -/
import Derived.Test.YtheaghgockafmaaGreatDcF
import Derived.Test.YtheaghgockafmaaGreatDbI
import Derived.Test.YtheaghgockafmaaGreatDcD
namespace Go.Proofs.YtheaghgockafmaaGreat.Wd
open Go.RowKit Go.Maps Go.Proofs.YtheaghgockafmaaGreat Go.Proofs.YtheaghgockafmaaGreat.Lin Go.Sort
set_option maxRecDepth 100000

theorem DbAt.keepN {P : Nat → Prop} {w w' : World} {d : Nat} {D : DbM} (h : DbAt P w d 0 D) (k : Keep (fun _ => False) w w') : DbAt P w' d 0 D := h.keep k (fun _ _ h => h)

def roomThere (D : DbM) (x : RoomM) : Bool := (exL x).all (exitOk D)
def mobThere (D : DbM) (m : MobPM) : Bool := hasRoom D m.home
def recThere (D : DbM) (r : RecM) : Bool := hasProto D r.out && r.needs.all (hasProto D)
def questThere (D : DbM) (q : QuestM) : Bool := hasProto D q.item && (q.reward == 0 || hasProto D q.reward)
def shopRoom (D : DbM) (n : Int) : Bool := D.rooms.any (fun _ => true) && (match findI (fun r : RoomM => r.id == n) D.rooms with | .ofNat k => (match D.rooms[k]? with | some r => r.kind == 1 | none => false) | .negSucc _ => false)
def shopThere (D : DbM) (s : ShopM) : Bool := shopRoom D s.room && s.items.all (hasProto D)
theorem shopRoom_hit {D : DbM} {n : Int} {k : Nat} {x : RoomM} (h : findI (fun r : RoomM => r.id == n) D.rooms = (k : Int)) (hx : D.rooms[k]? = some x) : shopRoom D n = (x.kind == 1) := by
  unfold shopRoom
  rw [h]
  have : D.rooms.any (fun _ => true) = true := List.any_eq_true.2 ⟨x, List.mem_of_getElem? hx, rfl⟩
  rw [this, Bool.true_and]
  show (match D.rooms[k]? with | some r => r.kind == 1 | none => false) = _
  rw [hx]
theorem shopRoom_miss {D : DbM} {n : Int} (h : findI (fun r : RoomM => r.id == n) D.rooms = -1) : shopRoom D n = false := by
  unfold shopRoom
  rw [h]
  show (_ && false) = false
  rw [Bool.and_false]
def closedB (D : DbM) : Bool := D.rooms.all (roomThere D) && D.mobs.all (mobThere D) && D.recs.all (recThere D) && D.quests.all (questThere D) && D.shops.all (shopThere D)
theorem closed_iff (D : DbM) : closedB D = true ↔ ThereOk D := by
  unfold closedB ThereOk
  simp only [Bool.and_eq_true, List.all_eq_true]
  constructor
  · rintro ⟨⟨⟨⟨h1, h2⟩, h3⟩, h4⟩, h5⟩
    refine ⟨fun r hr => ?_, h2, fun r hr => ?_, fun q hq => ?_, fun s hs => ?_⟩
    · have := h1 r hr
      simp only [roomThere, exL, List.all_cons, List.all_nil, Bool.and_true, Bool.and_eq_true] at this
      exact this
    · have := h3 r hr
      simp only [recThere, Bool.and_eq_true, List.all_eq_true] at this
      exact this
    · have := h4 q hq
      simp only [questThere, Bool.and_eq_true, Bool.or_eq_true, beq_iff_eq] at this
      exact this
    · have := h5 s hs
      simp only [shopThere, Bool.and_eq_true, List.all_eq_true] at this
      refine ⟨?_, this.2⟩
      rcases findI_cases (fun r : RoomM => r.id == s.room) D.rooms with ⟨hf, _⟩ | ⟨k, x, hf, hx, _⟩
      · rw [shopRoom_miss hf] at this; simp at this
      · rw [shopRoom_hit hf hx] at this
        exact ⟨k, x, hf, hx, by simpa using this.1⟩
  · rintro ⟨h1, h2, h3, h4, h5⟩
    refine ⟨⟨⟨⟨fun r hr => ?_, h2⟩, fun r hr => ?_⟩, fun q hq => ?_⟩, fun s hs => ?_⟩
    · have := h1 r hr
      simp only [roomThere, exL, List.all_cons, List.all_nil, Bool.and_true, Bool.and_eq_true]
      exact this
    · have := h3 r hr
      simp only [recThere, Bool.and_eq_true, List.all_eq_true]
      exact this
    · have := h4 q hq
      simp only [questThere, Bool.and_eq_true, Bool.or_eq_true, beq_iff_eq]
      exact this
    · obtain ⟨⟨k, x, hf, hx, hk⟩, hi⟩ := h5 s hs
      simp only [shopThere, Bool.and_eq_true, List.all_eq_true]
      exact ⟨by rw [shopRoom_hit hf hx]; simpa using hk, hi⟩

theorem exitC_any {P : Nat → Prop} {w : World} {d q : Nat} {D : DbM} (h : DbAt P w d 0 D) (hq : w.cell? ⟨q, 0, none⟩ = some (.pointer (some ⟨d, 0, none⟩))) (n : Int) :
    Calls Tryz.prog 297 #[.int .i64 n, .pointer (some ⟨q, 0, none⟩)] w fun e w' => e = .returned (.bool (exitOk D n)) ∧ Keep (fun _ => False) w w' := by
  by_cases h0 : n = 0
  · subst h0
    rw [show exitOk D 0 = true by unfold exitOk; simp]
    clear h hq
    go_enter Tryz.func297, Tryz.ntmps297
    go_wp2
    go_ret
    exact ⟨rfl, Keep.refl _ _⟩
  · have hn : (n == 0) = false := by rw [beq_eq_false_iff_ne]; exact h0
    have he : exitOk D n = hasRoom D n := by unfold exitOk; rw [hn, Bool.false_or]
    rw [he]
    have HC := Lib.hid (hasRoom_any h n)
    generalize hasRoom D n = z at *
    clear h h0 he
    go_enter Tryz.func297, Tryz.ntmps297
    go_wp2_with (go_at_call 206; (with_reducible refine HC.out.mono ?_); rintro e w9 ⟨rfl, k9⟩; have K9 := Lib.hid k9; clear k9)
    go_ret
    exact ⟨rfl, K9.out⟩
theorem Tryz.en_exitC : ∀ args w, (callFunc 297 args).run Tryz.prog w = .ok (.enter 297 args) w := enters_of Tryz.func297 (by kernel_rfl) rfl
set_option maxHeartbeats 4000000 in
theorem hasExits_any {P : Nat → Prop} {w : World} {d : Nat} {D : DbM} (h : DbAt P w d 0 D) (x : RoomM) :
    Calls Tryz.prog 203 #[.pointer (some ⟨d, 0, none⟩), .agg (roomC x).toArray] w fun e w' => e = .returned (.bool (roomThere D x)) ∧ Keep (fun _ => False) w w' := by
  obtain ⟨W2, hW2⟩ : ∃ W2, W2 = (w.alloc (.cells #[.pointer (some ⟨d, 0, none⟩)] 34)).alloc (.cells (roomC x).toArray 127) := ⟨_, rfl⟩
  have hk : Keep (fun _ => False) w W2 := by rw [hW2]; exact ((Keep.refl _ w).alloc _).alloc _
  have hq : W2.cell? ⟨w.heap.size, 0, none⟩ = some (.pointer (some ⟨d, 0, none⟩)) := by
    rw [hW2, ((Keep.refl (fun _ => False) (w.alloc (.cells #[.pointer (some ⟨d, 0, none⟩)] 34))).alloc (.cells (roomC x).toArray 127)).cell (by simp) (fun h => h), cell_of_row _ _ _ _ _ _ (heap_alloc_new w _)]; rfl
  have hbx : W2.heap[w.heap.size + 1]? = some (.cells (roomC x).toArray 127 (0, 0)) := by
    have := heap_alloc_new (w.alloc (.cells #[.pointer (some ⟨d, 0, none⟩)] 34)) (.cells (roomC x).toArray 127)
    rw [hW2]; simpa using this
  have hse : Seen W2 1 (.slice (some ⟨w.heap.size + 1, 4, none⟩) 6 6) (exL x).length (icells (exL x)) := ⟨rfl, _, _, rfl, by simp [exL], by simp [maxLen], .inr ⟨w.heap.size + 1, 4, rfl, lt_of_block hbx, fun j u hu => by
    rw [cell_of_row _ _ _ _ _ _ hbx]
    match j, hu with
    | 0, hu => exact hu
    | 1, hu => exact hu
    | 2, hu => exact hu
    | 3, hu => exact hu
    | 4, hu => exact hu
    | 5, hu => exact hu
    | j + 6, hu => simp [exL, icells] at hu⟩⟩
  have HAL := Lib.hid (allInt_any hse (fun n => exitOk D n) (lb := #[.pointer (some ⟨w.heap.size, 0, none⟩)]) Tryz.en_exitC (fun n _ w9 k9 => exitC_any ((h.keepN hk).keepN k9) ((k9.cell (cell_lt hq) (fun h => h) _).trans hq) n))
  have HWE := Lib.hid hW2.symm
  have HK := Lib.hid hk
  unfold roomThere
  generalize (exL x).all (fun n => exitOk D n) = z at *
  simp only [roomC] at HWE HAL ⊢
  clear h hW2 hk hq hbx hse
  go_enter Tryz.func203, Tryz.ntmps203
  go_wp2_with (go_at_call 282; rw [HWE.out]; (refine HAL.out.mono ?_); rintro e w9 ⟨rfl, k9⟩; have K9 := Lib.hid k9; clear k9)
  go_ret
  exact ⟨rfl, HK.out.trans K9.out (fun _ h => h.elim)⟩
theorem protoC1_any {P : Nat → Prop} {w : World} {d q : Nat} {D : DbM} (h : DbAt P w d 0 D) (hq : w.cell? ⟨q, 0, none⟩ = some (.pointer (some ⟨d, 0, none⟩))) (n : Int) :
    Calls Tryz.prog 298 #[.int .i64 n, .pointer (some ⟨q, 0, none⟩)] w fun e w' => e = .returned (.bool (hasProto D n)) ∧ Keep (fun _ => False) w w' := by
  have HC := Lib.hid (hasProto_any h n)
  generalize hasProto D n = z at *
  clear h
  go_enter Tryz.func298, Tryz.ntmps298
  go_wp2_with (go_at_call 209; (with_reducible refine HC.out.mono ?_); rintro e w9 ⟨rfl, k9⟩; have K9 := Lib.hid k9; clear k9)
  go_ret
  exact ⟨rfl, K9.out⟩
theorem Tryz.en_protoC1 : ∀ args w, (callFunc 298 args).run Tryz.prog w = .ok (.enter 298 args) w := enters_of Tryz.func298 (by kernel_rfl) rfl
theorem hasProtos_any {P : Nat → Prop} {w : World} {d : Nat} {D : DbM} (h : DbAt P w d 0 D) {v : Value} {l : List Int} (hv : Seen w 1 v l.length (icells l)) :
    Calls Tryz.prog 210 #[.pointer (some ⟨d, 0, none⟩), v] w fun e w' => e = .returned (.bool (l.all (hasProto D))) ∧ Keep (fun _ => False) w w' := by
  obtain ⟨W2, hW2⟩ : ∃ W2, W2 = w.alloc (.cells #[.pointer (some ⟨d, 0, none⟩)] 34) := ⟨_, rfl⟩
  have hk : Keep (fun _ => False) w W2 := by rw [hW2]; exact (Keep.refl _ w).alloc _
  have hq : W2.cell? ⟨w.heap.size, 0, none⟩ = some (.pointer (some ⟨d, 0, none⟩)) := by rw [hW2, cell_of_row _ _ _ _ _ _ (heap_alloc_new w _)]; rfl
  have HAL := Lib.hid (allInt_any (hv.keep hk (fun _ _ _ h => h)) (fun n => hasProto D n) (lb := #[.pointer (some ⟨w.heap.size, 0, none⟩)]) Tryz.en_protoC1 (fun n _ w9 k9 => protoC1_any ((h.keepN hk).keepN k9) ((k9.cell (cell_lt hq) (fun h => h) _).trans hq) n))
  have HWE := Lib.hid hW2.symm
  have HK := Lib.hid hk
  generalize l.all (fun n => hasProto D n) = z at *
  clear h hW2 hk hq hv
  go_enter Tryz.func210, Tryz.ntmps210
  go_wp2_with (go_at_call 282; rw [HWE.out]; (refine HAL.out.mono ?_); rintro e w9 ⟨rfl, k9⟩; have K9 := Lib.hid k9; clear k9)
  go_ret
  exact ⟨rfl, HK.out.trans K9.out (fun _ h => h.elim)⟩
set_option maxHeartbeats 2000000 in
theorem hasQuest_any {P : Nat → Prop} {w : World} {d : Nat} {D : DbM} (h : DbAt P w d 0 D) (x : QuestM) :
    Calls Tryz.prog 213 #[.pointer (some ⟨d, 0, none⟩), .agg (questC x).toArray] w fun e w' => e = .returned (.bool (questThere D x)) ∧ Keep (fun _ => False) w w' := by
  have HK : Hid (Keep (fun _ => False) w (w.alloc (.cells (questC x).toArray 137))) := Lib.hid ((Keep.refl _ w).alloc _)
  have C1 := Lib.hid (hasProto_any (h.keepN HK.out) x.item)
  have C2 := Lib.hid (fun w9 (k : Keep (fun _ => False) w w9) => hasProto_any (h.keepN k) x.reward)
  unfold questThere
  simp only [questC] at HK C1 ⊢
  clear h
  cases b1 : hasProto D x.item with
  | false =>
    rw [b1] at C1
    rw [Bool.false_and]
    go_enter Tryz.func213, Tryz.ntmps213
    go_wp2_with (go_at_call 209; (with_reducible refine C1.out.mono ?_); rintro e w9 ⟨rfl, k9⟩; have K9 := Lib.hid k9; clear k9)
    go_ret
    exact ⟨rfl, HK.out.trans K9.out (fun _ h => h.elim)⟩
  | true =>
    rw [b1] at C1
    rw [Bool.true_and]
    have HCELL : Hid (∀ w9, Keep (fun _ => False) (w.alloc (.cells (questC x).toArray 137)) w9 → w9.cell? ⟨w.heap.size, 4, none⟩ = some (.int .i64 x.reward)) := Lib.hid (fun w9 k => (k.cell (by simp) (fun h => h) _).trans (by rw [cell_of_row _ _ _ _ _ _ (heap_alloc_new w _)]; rfl))
    simp only [questC] at HCELL
    by_cases h0 : x.reward = 0
    · have hz : (x.reward == 0) = true := by rw [h0]; rfl
      rw [hz, Bool.true_or]
      clear h0
      go_enter Tryz.func213, Tryz.ntmps213
      go_wp2_with (go_at_call 209; (with_reducible refine C1.out.mono ?_); rintro e w9 ⟨rfl, k9⟩; have K9 := Lib.hid k9; have cc := HCELL.out w9 k9; clear k9)
      go_ret
      exact ⟨rfl, HK.out.trans K9.out (fun _ h => h.elim)⟩
    · have hz : (x.reward == 0) = false := by rw [beq_eq_false_iff_ne]; exact h0
      rw [hz, Bool.false_or]
      generalize hasProto D x.reward = z at *
      clear h0
      go_enter Tryz.func213, Tryz.ntmps213
      go_wp2_with (first
        | (go_at_call 209; (with_reducible refine C1.out.mono ?_); rintro e w9 ⟨rfl, k9⟩; have K9 := Lib.hid (HK.out.trans k9 (fun _ h => h.elim)); have cc := HCELL.out w9 k9; clear k9)
        | (go_at_call 209; (with_reducible refine (C2.out _ K9.out).mono ?_); rintro e w8 ⟨rfl, k8⟩; have K8 := Lib.hid k8; clear k8))
      go_ret
      exact ⟨rfl, K9.out.trans K8.out (fun _ h => h.elim)⟩
set_option maxHeartbeats 4000000 in
theorem hasShop_any {P : Nat → Prop} {w : World} {d : Nat} {D : DbM} (h : DbAt P w d 0 D) (x : ShopM) {v : Value} (hv : Seen w 1 v x.items.length (icells x.items)) :
    Calls Tryz.prog 216 #[.pointer (some ⟨d, 0, none⟩), .agg (shopC (x, v)).toArray] w fun e w' => e = .returned (.bool (shopThere D x)) ∧ Keep (fun _ => False) w w' := by
  obtain ⟨hl1, va, vc, rfl, hv1, hv2, hv3⟩ := hv
  have HV : Hid (Seen w 1 (.slice va x.items.length vc) x.items.length (icells x.items)) := Lib.hid ⟨hl1, va, vc, rfl, hv1, hv2, hv3⟩
  unfold maxLen at hv2
  have HK : Hid (Keep (fun _ => False) w (w.alloc (.cells (shopC (x, .slice va x.items.length vc)).toArray 107))) := Lib.hid ((Keep.refl _ w).alloc _)
  have HB : Hid (∀ w9, Keep (fun _ => False) (w.alloc (.cells (shopC (x, .slice va x.items.length vc)).toArray 107)) w9 → w9.cell? ⟨w.heap.size, 2, none⟩ = some (.slice va x.items.length vc)) := Lib.hid (fun w9 k => (k.cell (by simp) (fun h => h) _).trans (by rw [cell_of_row _ _ _ _ _ _ (heap_alloc_new w _)]; rfl))
  have HPS := Lib.hid (fun w9 (k : Keep (fun _ => False) w w9) => hasProtos_any (h.keepN k) (HV.out.keep k (fun _ _ _ h => h)))
  obtain ⟨Z, HZ, HZS, HZE⟩ := zFRoom
  have HI9 := Lib.hid Tryz.infoFRoom
  unfold shopThere
  obtain ⟨pz, hpz⟩ : ∃ pz, pz = x.items.all (hasProto D) := ⟨_, rfl⟩
  rw [← hpz] at HPS ⊢
  clear hpz hl1 hv3
  rcases findI_cases (fun r : RoomM => r.id == x.room) D.rooms with ⟨hf, _⟩ | ⟨k, r, hf, hx, _, _⟩
  · have HFIND : Hid (Calls Tryz.prog 152 #[.pointer (some ⟨d, 0, none⟩), .int .i64 x.room] (w.alloc (.cells (shopC (x, .slice va x.items.length vc)).toArray 107)) fun e w' => e = .returned (.tuple #[.agg Z, .bool false]) ∧ Keep (fun _ => False) (w.alloc (.cells (shopC (x, .slice va x.items.length vc)).toArray 107)) w') := Lib.hid ((RoomF_any (h.keepN HK.out) x.room).mono fun e w' hh => ⟨by
      rcases hh.1 with ⟨k, x', h1, _⟩ | ⟨_, h1⟩
      · rw [hf] at h1; omega
      · rw [h1, HZE.out], hh.2⟩)
    rw [shopRoom_miss hf, Bool.false_and]
    simp only [shopC] at HK HB HFIND ⊢
    have HZ1 : Hid (Z.all (·.oneCell') = true) := Lib.hid (by rw [HZE.out]; simp [roomC, Value.oneCell'])
    clear h hf
    go_enter Tryz.func216, Tryz.ntmps216
    go_wp2_with (first
      | (go_at_call 152; (with_reducible refine HFIND.out.mono ?_); rintro e w9 ⟨rfl, k9⟩; have K9 := Lib.hid (HK.out.trans k9 (fun _ h => h.elim)); clear k9)
      | (refine wpList_var_any (C := Z) HZ.out (by rw [HZS.out]; exact HI9.out) rfl HZ1.out rfl rfl rfl (.tmp 5) (.tmp 12) rfl rfl rfl ?_; intro W1 B1 hb1 hk1; have HK1 := Lib.hid (K9.out.trans hk1 (fun _ h => h.elim)); clear hb1 hk1; simp only [Act.put, List.setIfInBounds_toArray, List.set_cons_succ, List.set_cons_zero]))
    go_ret
    exact ⟨rfl, HK1.out⟩
  · have HFIND : Hid (Calls Tryz.prog 152 #[.pointer (some ⟨d, 0, none⟩), .int .i64 x.room] (w.alloc (.cells (shopC (x, .slice va x.items.length vc)).toArray 107)) fun e w' => e = .returned (.tuple #[.agg (roomC r).toArray, .bool true]) ∧ Keep (fun _ => False) (w.alloc (.cells (shopC (x, .slice va x.items.length vc)).toArray 107)) w') := Lib.hid ((RoomF_any (h.keepN HK.out) x.room).mono fun e w' hh => ⟨by
      rcases hh.1 with ⟨k', x', h1, h2, h3⟩ | ⟨h1, _⟩
      · have : k' = k := by omega
        subst this
        rw [hx] at h2; cases h2
        exact h3
      · rw [hf] at h1; omega, hh.2⟩)
    rw [shopRoom_hit hf hx]
    simp only [shopC] at HK HB HFIND ⊢
    clear h hf hx
    have varm : True := trivial
    by_cases hk1 : r.kind = 1
    · have hkb : (r.kind == 1) = true := by rw [hk1]; rfl
      rw [hkb, Bool.true_and]
      clear hk1
      go_enter Tryz.func216, Tryz.ntmps216
      go_wp2_with (first
        | (go_at_call 152; (with_reducible refine HFIND.out.mono ?_); rintro e w9 ⟨rfl, k9⟩; have K9 := Lib.hid (HK.out.trans k9 (fun _ h => h.elim)); have KB := Lib.hid k9; clear k9)
        | (refine wpList_var_any (C := (roomC r).toArray) HZ.out HI9.out HZS.out (by simp [roomC, Value.oneCell']) rfl rfl rfl (.tmp 5) (.tmp 12) rfl rfl rfl ?_; intro W1 B1 hb1 hk1; have HK1 := Lib.hid (K9.out.trans hk1 (fun _ h => h.elim)); have ck : W1.cell? ⟨B1, 2, none⟩ = some (.int .i64 r.kind) := (cell_of_row W1 B1 2 _ _ _ hb1).trans rfl; have ci := HB.out W1 (KB.out.trans hk1 (fun _ h => h.elim)); clear hb1 hk1; simp only [Act.put, List.setIfInBounds_toArray, List.set_cons_succ, List.set_cons_zero])
        | (go_at_call 210; (with_reducible refine (HPS.out _ HK1.out).mono ?_); rintro e w8 ⟨rfl, k8⟩; have K8 := Lib.hid k8; clear k8))
      go_ret
      exact ⟨rfl, HK1.out.trans K8.out (fun _ h => h.elim)⟩
    · have hkb : (r.kind == 1) = false := by rw [beq_eq_false_iff_ne]; exact hk1
      rw [hkb, Bool.false_and]
      clear hk1
      go_enter Tryz.func216, Tryz.ntmps216
      go_wp2_with (first
        | (go_at_call 152; (with_reducible refine HFIND.out.mono ?_); rintro e w9 ⟨rfl, k9⟩; have K9 := Lib.hid (HK.out.trans k9 (fun _ h => h.elim)); have KB := Lib.hid k9; clear k9)
        | (refine wpList_var_any (C := (roomC r).toArray) HZ.out HI9.out HZS.out (by simp [roomC, Value.oneCell']) rfl rfl rfl (.tmp 5) (.tmp 12) rfl rfl rfl ?_; intro W1 B1 hb1 hk1; have HK1 := Lib.hid (K9.out.trans hk1 (fun _ h => h.elim)); have ck : W1.cell? ⟨B1, 2, none⟩ = some (.int .i64 r.kind) := (cell_of_row W1 B1 2 _ _ _ hb1).trans rfl; clear hb1 hk1; simp only [Act.put, List.setIfInBounds_toArray, List.set_cons_succ, List.set_cons_zero]))
      go_ret
      exact ⟨rfl, HK1.out⟩
end Go.Proofs.YtheaghgockafmaaGreat.Wd
/- World files: the program's Check (made by tools/gendch.py). -/
namespace Go.Proofs.YtheaghgockafmaaGreat.Wd
open Go.RowKit Go.Maps Go.Proofs.YtheaghgockafmaaGreat Go.Proofs.YtheaghgockafmaaGreat.Lin Go.Sort
set_option maxRecDepth 100000

set_option maxHeartbeats 4000000 in
theorem closCRoom_any {P : Nat → Prop} {w : World} {d q : Nat} {D : DbM} (h : DbAt P w d 0 D) (hq : w.cell? ⟨q, 0, none⟩ = some (.pointer (some ⟨d, 0, none⟩))) (x : RoomM) :
    Calls Tryz.prog 202 #[.agg (roomC x).toArray, .pointer (some ⟨q, 0, none⟩)] w fun e w' => e = .returned (.bool (roomThere D x)) ∧ Keep (fun _ => False) w w' := by
  obtain ⟨W2, hW2⟩ : ∃ W2, W2 = w.alloc (.cells (roomC x).toArray 127) := ⟨_, rfl⟩
  have hk : Keep (fun _ => False) w W2 := by rw [hW2]; exact (Keep.refl _ w).alloc _
  have hq2 : W2.cell? ⟨q, 0, none⟩ = some (.pointer (some ⟨d, 0, none⟩)) := (hk.cell (cell_lt hq) (fun h => h) _).trans hq
  have HK := Lib.hid hk
  have HWE := Lib.hid hW2.symm
  have hql := cell_lt hq
  have HC := Lib.hid (hasExits_any (h.keepN hk) x)
  generalize roomThere D x = z at *
  simp only [roomC] at HWE HC ⊢
  clear h hW2 hk
  go_enter Tryz.func202, Tryz.ntmps202
  go_wp2_with (go_at_call 203; rw [HWE.out]; (refine HC.out.mono ?_); rintro e w9 ⟨rfl, k9⟩; have K9 := Lib.hid k9; clear k9)
  go_ret
  exact ⟨rfl, HK.out.trans K9.out (fun _ h => h.elim)⟩
theorem Tryz.en_closCRoom : ∀ args w, (callFunc 202 args).run Tryz.prog w = .ok (.enter 202 args) w := enters_of Tryz.func202 (by kernel_rfl) rfl

set_option maxHeartbeats 4000000 in
theorem closCMob_any {P : Nat → Prop} {w : World} {d q : Nat} {D : DbM} (h : DbAt P w d 0 D) (hq : w.cell? ⟨q, 0, none⟩ = some (.pointer (some ⟨d, 0, none⟩))) (x : MobPM) :
    Calls Tryz.prog 205 #[.agg (mobpC x).toArray, .pointer (some ⟨q, 0, none⟩)] w fun e w' => e = .returned (.bool (mobThere D x)) ∧ Keep (fun _ => False) w w' := by
  obtain ⟨W2, hW2⟩ : ∃ W2, W2 = w.alloc (.cells (mobpC x).toArray 105) := ⟨_, rfl⟩
  have hk : Keep (fun _ => False) w W2 := by rw [hW2]; exact (Keep.refl _ w).alloc _
  have hq2 : W2.cell? ⟨q, 0, none⟩ = some (.pointer (some ⟨d, 0, none⟩)) := (hk.cell (cell_lt hq) (fun h => h) _).trans hq
  have HK := Lib.hid hk
  have HWE := Lib.hid hW2.symm
  have hql := cell_lt hq
  have HC := Lib.hid (hasRoom_any (h.keepN hk) x.home)
  unfold mobThere
  generalize hasRoom D x.home = z at *
  simp only [mobpC] at HWE HC ⊢
  clear h hW2 hk
  go_enter Tryz.func205, Tryz.ntmps205
  go_wp2_with (go_at_call 206; rw [HWE.out]; (refine HC.out.mono ?_); rintro e w9 ⟨rfl, k9⟩; have K9 := Lib.hid k9; clear k9)
  go_ret
  exact ⟨rfl, HK.out.trans K9.out (fun _ h => h.elim)⟩
theorem Tryz.en_closCMob : ∀ args w, (callFunc 205 args).run Tryz.prog w = .ok (.enter 205 args) w := enters_of Tryz.func205 (by kernel_rfl) rfl

set_option maxHeartbeats 4000000 in
theorem closCRec_any {P : Nat → Prop} {w : World} {d q : Nat} {D : DbM} (h : DbAt P w d 0 D) (hq : w.cell? ⟨q, 0, none⟩ = some (.pointer (some ⟨d, 0, none⟩))) (x : RecM) {v : Value} (hv : Seen w 1 v x.needs.length (icells x.needs)) :
    Calls Tryz.prog 208 #[.agg (recC (x, v)).toArray, .pointer (some ⟨q, 0, none⟩)] w fun e w' => e = .returned (.bool (recThere D x)) ∧ Keep (fun _ => False) w w' := by
  obtain ⟨hl1, va, vc, rfl, hv1, hv2, hv3⟩ := hv
  have HV : Hid (Seen w 1 (.slice va x.needs.length vc) x.needs.length (icells x.needs)) := Lib.hid ⟨hl1, va, vc, rfl, hv1, hv2, hv3⟩
  unfold maxLen at hv2
  clear hl1 hv3
  obtain ⟨W2, hW2⟩ : ∃ W2, W2 = w.alloc (.cells (recC (x, .slice va x.needs.length vc)).toArray 135) := ⟨_, rfl⟩
  have hk : Keep (fun _ => False) w W2 := by rw [hW2]; exact (Keep.refl _ w).alloc _
  have hq2 : W2.cell? ⟨q, 0, none⟩ = some (.pointer (some ⟨d, 0, none⟩)) := (hk.cell (cell_lt hq) (fun h => h) _).trans hq
  have HK := Lib.hid hk
  have HWE := Lib.hid hW2.symm
  have hql := cell_lt hq
  have hb1 : W2.cell? ⟨w.heap.size, 1, none⟩ = some (.slice va x.needs.length vc) := by rw [hW2, cell_of_row _ _ _ _ _ _ (heap_alloc_new w _)]; rfl
  have HCELL : Hid (∀ w9, Keep (fun _ => False) W2 w9 → w9.cell? ⟨w.heap.size, 1, none⟩ = some (.slice va x.needs.length vc) ∧ w9.cell? ⟨q, 0, none⟩ = some (.pointer (some ⟨d, 0, none⟩))) := Lib.hid (fun w9 k => ⟨(k.cell (cell_lt hb1) (fun h => h) _).trans hb1, (k.cell (cell_lt hq2) (fun h => h) _).trans hq2⟩)
  have HC := Lib.hid (hasProto_any (h.keepN hk) x.out)
  have HC2 := Lib.hid (fun w9 (k : Keep (fun _ => False) W2 w9) => hasProtos_any ((h.keepN hk).keepN k) ((HV.out.keep hk (fun _ _ _ h => h)).keep k (fun _ _ _ h => h)))
  unfold recThere
  generalize x.needs.all (hasProto D) = z2 at *
  generalize hasProto D x.out = z at *
  simp only [recC] at HWE HC ⊢
  clear h hW2 hk hb1
  cases z with
  | false =>
    rw [Bool.false_and]
    go_enter Tryz.func208, Tryz.ntmps208
    go_wp2_with (go_at_call 209; rw [HWE.out]; (refine HC.out.mono ?_); rintro e w9 ⟨rfl, k9⟩; have K9 := Lib.hid k9; clear k9)
    go_ret
    exact ⟨rfl, HK.out.trans K9.out (fun _ h => h.elim)⟩
  | true =>
    rw [Bool.true_and]
    go_enter Tryz.func208, Tryz.ntmps208
    go_wp2_with (first
      | (go_at_call 209; rw [HWE.out]; (refine HC.out.mono ?_); rintro e w9 ⟨rfl, k9⟩; have K9 := Lib.hid k9; obtain ⟨cc1, cc2⟩ := HCELL.out w9 k9; clear k9)
      | (go_at_call 210; (with_reducible refine (HC2.out _ K9.out).mono ?_); rintro e w8 ⟨rfl, k8⟩; have K8 := Lib.hid k8; clear k8))
    go_ret
    exact ⟨rfl, (HK.out.trans K9.out (fun _ h => h.elim)).trans K8.out (fun _ h => h.elim)⟩
theorem Tryz.en_closCRec : ∀ args w, (callFunc 208 args).run Tryz.prog w = .ok (.enter 208 args) w := enters_of Tryz.func208 (by kernel_rfl) rfl

set_option maxHeartbeats 4000000 in
theorem closCQuest_any {P : Nat → Prop} {w : World} {d q : Nat} {D : DbM} (h : DbAt P w d 0 D) (hq : w.cell? ⟨q, 0, none⟩ = some (.pointer (some ⟨d, 0, none⟩))) (x : QuestM) :
    Calls Tryz.prog 212 #[.agg (questC x).toArray, .pointer (some ⟨q, 0, none⟩)] w fun e w' => e = .returned (.bool (questThere D x)) ∧ Keep (fun _ => False) w w' := by
  obtain ⟨W2, hW2⟩ : ∃ W2, W2 = w.alloc (.cells (questC x).toArray 137) := ⟨_, rfl⟩
  have hk : Keep (fun _ => False) w W2 := by rw [hW2]; exact (Keep.refl _ w).alloc _
  have hq2 : W2.cell? ⟨q, 0, none⟩ = some (.pointer (some ⟨d, 0, none⟩)) := (hk.cell (cell_lt hq) (fun h => h) _).trans hq
  have HK := Lib.hid hk
  have HWE := Lib.hid hW2.symm
  have hql := cell_lt hq
  have HC := Lib.hid (hasQuest_any (h.keepN hk) x)
  generalize questThere D x = z at *
  simp only [questC] at HWE HC ⊢
  clear h hW2 hk
  go_enter Tryz.func212, Tryz.ntmps212
  go_wp2_with (go_at_call 213; rw [HWE.out]; (refine HC.out.mono ?_); rintro e w9 ⟨rfl, k9⟩; have K9 := Lib.hid k9; clear k9)
  go_ret
  exact ⟨rfl, HK.out.trans K9.out (fun _ h => h.elim)⟩
theorem Tryz.en_closCQuest : ∀ args w, (callFunc 212 args).run Tryz.prog w = .ok (.enter 212 args) w := enters_of Tryz.func212 (by kernel_rfl) rfl

set_option maxHeartbeats 4000000 in
theorem closCShop_any {P : Nat → Prop} {w : World} {d q : Nat} {D : DbM} (h : DbAt P w d 0 D) (hq : w.cell? ⟨q, 0, none⟩ = some (.pointer (some ⟨d, 0, none⟩))) (x : ShopM) {v : Value} (hv : Seen w 1 v x.items.length (icells x.items)) :
    Calls Tryz.prog 215 #[.agg (shopC (x, v)).toArray, .pointer (some ⟨q, 0, none⟩)] w fun e w' => e = .returned (.bool (shopThere D x)) ∧ Keep (fun _ => False) w w' := by
  obtain ⟨hl1, va, vc, rfl, hv1, hv2, hv3⟩ := hv
  have HV : Hid (Seen w 1 (.slice va x.items.length vc) x.items.length (icells x.items)) := Lib.hid ⟨hl1, va, vc, rfl, hv1, hv2, hv3⟩
  unfold maxLen at hv2
  clear hl1 hv3
  obtain ⟨W2, hW2⟩ : ∃ W2, W2 = w.alloc (.cells (shopC (x, .slice va x.items.length vc)).toArray 107) := ⟨_, rfl⟩
  have hk : Keep (fun _ => False) w W2 := by rw [hW2]; exact (Keep.refl _ w).alloc _
  have hq2 : W2.cell? ⟨q, 0, none⟩ = some (.pointer (some ⟨d, 0, none⟩)) := (hk.cell (cell_lt hq) (fun h => h) _).trans hq
  have HK := Lib.hid hk
  have HWE := Lib.hid hW2.symm
  have hql := cell_lt hq
  have HC := Lib.hid (hasShop_any (h.keepN hk) x (HV.out.keep HK.out (fun _ _ _ h => h)))
  generalize shopThere D x = z at *
  simp only [shopC] at HWE HC ⊢
  clear h hW2 hk
  go_enter Tryz.func215, Tryz.ntmps215
  go_wp2_with (go_at_call 216; rw [HWE.out]; (refine HC.out.mono ?_); rintro e w9 ⟨rfl, k9⟩; have K9 := Lib.hid k9; clear k9)
  go_ret
  exact ⟨rfl, HK.out.trans K9.out (fun _ h => h.elim)⟩
theorem Tryz.en_closCShop : ∀ args w, (callFunc 215 args).run Tryz.prog w = .ok (.enter 215 args) w := enters_of Tryz.func215 (by kernel_rfl) rfl

theorem map_all {α β : Type} {L : List α} {M : List β} {f : α → β} (h : L.map f = M) (p : β → Bool) : L.all (fun x => p (f x)) = M.all p := by
  rw [← h, List.all_map]; rfl
set_option maxHeartbeats 8000000 in
theorem isClosed_any {P : Nat → Prop} {w : World} {d : Nat} {D : DbM} (h : DbAt P w d 0 D) :
    Calls Tryz.prog 105 #[.pointer (some ⟨d, 0, none⟩)] w fun e w' => e = .returned (.bool (closedB D)) ∧ Keep (fun _ => False) w w' := by
  obtain ⟨v1, v2, v3, v4, v5, v6, rr, ss, hd, hr, h1, h2, h3, ⟨h4, h4a, h4b⟩, h5, ⟨h6, h6a, h6b⟩, _⟩ := h.ex
  obtain ⟨W2, hW2⟩ : ∃ W2, W2 = w.alloc (.cells #[.pointer (some ⟨d, 0, none⟩)] 34) := ⟨_, rfl⟩
  have hk : Keep (fun _ => False) w W2 := by rw [hW2]; exact (Keep.refl _ w).alloc _
  have hq : W2.cell? ⟨w.heap.size, 0, none⟩ = some (.pointer (some ⟨d, 0, none⟩)) := by rw [hW2, cell_of_row _ _ _ _ _ _ (heap_alloc_new w _)]; rfl
  have HQ : Hid (∀ w9, Keep (fun _ => False) W2 w9 → w9.cell? ⟨w.heap.size, 0, none⟩ = some (.pointer (some ⟨d, 0, none⟩))) := Lib.hid (fun w9 k => (k.cell (cell_lt hq) (fun h => h) _).trans hq)
  have HP1 : Hid (∀ w9, Keep (fun _ => False) W2 w9 → w9.cell? ⟨d, 0, none⟩ = some v1) := Lib.hid (fun w9 k => ((hk.trans k (fun _ h => h.elim)).cell hd (fun h => h) _).trans (hr 0 _ rfl))
  have HP3 : Hid (∀ w9, Keep (fun _ => False) W2 w9 → w9.cell? ⟨d, 2, none⟩ = some v3) := Lib.hid (fun w9 k => ((hk.trans k (fun _ h => h.elim)).cell hd (fun h => h) _).trans (hr 2 _ rfl))
  have HP4 : Hid (∀ w9, Keep (fun _ => False) W2 w9 → w9.cell? ⟨d, 3, none⟩ = some v4) := Lib.hid (fun w9 k => ((hk.trans k (fun _ h => h.elim)).cell hd (fun h => h) _).trans (hr 3 _ rfl))
  have HP5 : Hid (∀ w9, Keep (fun _ => False) W2 w9 → w9.cell? ⟨d, 4, none⟩ = some v5) := Lib.hid (fun w9 k => ((hk.trans k (fun _ h => h.elim)).cell hd (fun h => h) _).trans (hr 4 _ rfl))
  have HP6 : Hid (∀ w9, Keep (fun _ => False) W2 w9 → w9.cell? ⟨d, 5, none⟩ = some v6) := Lib.hid (fun w9 k => ((hk.trans k (fun _ h => h.elim)).cell hd (fun h => h) _).trans (hr 5 _ rfl))
  have C1 : Hid (∀ w9, Keep (fun _ => False) W2 w9 → Calls Tryz.prog 201 #[v1, .func (.func 202) #[] #[.pointer (some ⟨w.heap.size, 0, none⟩)]] w9 fun e w' => e = .returned (.bool (D.rooms.all (roomThere D))) ∧ Keep (fun _ => False) w9 w') := Lib.hid (fun w9 k9 =>
    allRoom_any ((h1.row.seen.keep hk (fun _ _ _ h => h)).keep k9 (fun _ _ _ h => h)) (roomThere D) (lb := #[.pointer (some ⟨w.heap.size, 0, none⟩)]) Tryz.en_closCRoom (fun x _ w8 k8 => closCRoom_any (((h.keepN hk).keepN k9).keepN k8) (HQ.out _ (k9.trans k8 (fun _ h => h.elim))) x))
  have C3 : Hid (∀ w9, Keep (fun _ => False) W2 w9 → Calls Tryz.prog 204 #[v3, .func (.func 205) #[] #[.pointer (some ⟨w.heap.size, 0, none⟩)]] w9 fun e w' => e = .returned (.bool (D.mobs.all (mobThere D))) ∧ Keep (fun _ => False) w9 w') := Lib.hid (fun w9 k9 =>
    allMob_any ((h3.row.seen.keep hk (fun _ _ _ h => h)).keep k9 (fun _ _ _ h => h)) (mobThere D) (lb := #[.pointer (some ⟨w.heap.size, 0, none⟩)]) Tryz.en_closCMob (fun x _ w8 k8 => closCMob_any (((h.keepN hk).keepN k9).keepN k8) (HQ.out _ (k9.trans k8 (fun _ h => h.elim))) x))
  have C4 : Hid (∀ w9, Keep (fun _ => False) W2 w9 → Calls Tryz.prog 207 #[v4, .func (.func 208) #[] #[.pointer (some ⟨w.heap.size, 0, none⟩)]] w9 fun e w' => e = .returned (.bool (D.recs.all (recThere D))) ∧ Keep (fun _ => False) w9 w') := Lib.hid (fun w9 k9 => by
    have := allRec_any ((h4.row.seen.keep hk (fun _ _ _ h => h)).keep k9 (fun _ _ _ h => h)) (fun x hx => by obtain ⟨a, c, e, _⟩ := (h4b x hx).slice; exact ⟨a, c, e⟩) (fun x => recThere D x.1) (lb := #[.pointer (some ⟨w.heap.size, 0, none⟩)]) Tryz.en_closCRec (fun x xa xc hx w8 k8 => closCRec_any (((h.keepN hk).keepN k9).keepN k8) (HQ.out _ (k9.trans k8 (fun _ h => h.elim))) x ((((h4b _ hx).1.keep hk (fun _ _ _ h => h)).keep k9 (fun _ _ _ h => h)).keep k8 (fun _ _ _ h => h)))
    rwa [map_all h4a] at this)
  have C5 : Hid (∀ w9, Keep (fun _ => False) W2 w9 → Calls Tryz.prog 211 #[v5, .func (.func 212) #[] #[.pointer (some ⟨w.heap.size, 0, none⟩)]] w9 fun e w' => e = .returned (.bool (D.quests.all (questThere D))) ∧ Keep (fun _ => False) w9 w') := Lib.hid (fun w9 k9 =>
    allQuest_any ((h5.row.seen.keep hk (fun _ _ _ h => h)).keep k9 (fun _ _ _ h => h)) (questThere D) (lb := #[.pointer (some ⟨w.heap.size, 0, none⟩)]) Tryz.en_closCQuest (fun x _ w8 k8 => closCQuest_any (((h.keepN hk).keepN k9).keepN k8) (HQ.out _ (k9.trans k8 (fun _ h => h.elim))) x))
  have C6 : Hid (∀ w9, Keep (fun _ => False) W2 w9 → Calls Tryz.prog 214 #[v6, .func (.func 215) #[] #[.pointer (some ⟨w.heap.size, 0, none⟩)]] w9 fun e w' => e = .returned (.bool (D.shops.all (shopThere D))) ∧ Keep (fun _ => False) w9 w') := Lib.hid (fun w9 k9 => by
    have := allShop_any ((h6.row.seen.keep hk (fun _ _ _ h => h)).keep k9 (fun _ _ _ h => h)) (fun x hx => by obtain ⟨a, c, e, _⟩ := (h6b x hx).slice; exact ⟨a, c, e⟩) (fun x => shopThere D x.1) (lb := #[.pointer (some ⟨w.heap.size, 0, none⟩)]) Tryz.en_closCShop (fun x xa xc hx w8 k8 => closCShop_any (((h.keepN hk).keepN k9).keepN k8) (HQ.out _ (k9.trans k8 (fun _ h => h.elim))) x ((((h6b _ hx).1.keep hk (fun _ _ _ h => h)).keep k9 (fun _ _ _ h => h)).keep k8 (fun _ _ _ h => h)))
    rwa [map_all h6a] at this)
  have HK := Lib.hid hk
  have HWE := Lib.hid hW2.symm
  unfold closedB
  generalize D.rooms.all (roomThere D) = z1 at *
  generalize D.mobs.all (mobThere D) = z3 at *
  generalize D.recs.all (recThere D) = z4 at *
  generalize D.quests.all (questThere D) = z5 at *
  generalize D.shops.all (shopThere D) = z6 at *
  have K : Hid (Keep (fun _ => False) W2 W2) := Lib.hid (Keep.refl _ _)
  have c1 : (w.alloc (.cells #[.pointer (some ⟨d, 0, none⟩)] 34)).cell? ⟨d, 0, none⟩ = some v1 := by rw [HWE.out]; exact HP1.out W2 K.out
  clear h hr h1 h2 h3 h4 h4a h4b h5 h6 h6a h6b hW2 hk hq
  cases z1 with
  | false =>
    go_enter Tryz.func105, Tryz.ntmps105
    go_wp2_with (first
      | (go_at_call 201; (try rw [HWE.out]); (with_reducible refine (C1.out _ K.out).mono ?_); rintro e w1 ⟨rfl, k9⟩; have K := Lib.hid (K.out.trans k9 (fun _ h => h.elim)); clear k9; have cq := HQ.out w1 K.out; have c3 := HP3.out w1 K.out; skip))
    go_ret
    exact ⟨rfl, HK.out.trans K.out (fun _ h => h.elim)⟩
  | true =>
    cases z3 with
    | false =>
      go_enter Tryz.func105, Tryz.ntmps105
      go_wp2_with (first
        | (go_at_call 201; (try rw [HWE.out]); (with_reducible refine (C1.out _ K.out).mono ?_); rintro e w1 ⟨rfl, k9⟩; have K := Lib.hid (K.out.trans k9 (fun _ h => h.elim)); clear k9; have cq := HQ.out w1 K.out; have c3 := HP3.out w1 K.out; skip)
        | (go_at_call 204; (with_reducible refine (C3.out _ K.out).mono ?_); rintro e w2 ⟨rfl, k9⟩; have K := Lib.hid (K.out.trans k9 (fun _ h => h.elim)); clear k9; have cq := HQ.out w2 K.out; have c4 := HP4.out w2 K.out; skip))
      go_ret
      exact ⟨rfl, HK.out.trans K.out (fun _ h => h.elim)⟩
    | true =>
      cases z4 with
      | false =>
        go_enter Tryz.func105, Tryz.ntmps105
        go_wp2_with (first
          | (go_at_call 201; (try rw [HWE.out]); (with_reducible refine (C1.out _ K.out).mono ?_); rintro e w1 ⟨rfl, k9⟩; have K := Lib.hid (K.out.trans k9 (fun _ h => h.elim)); clear k9; have cq := HQ.out w1 K.out; have c3 := HP3.out w1 K.out; skip)
          | (go_at_call 204; (with_reducible refine (C3.out _ K.out).mono ?_); rintro e w2 ⟨rfl, k9⟩; have K := Lib.hid (K.out.trans k9 (fun _ h => h.elim)); clear k9; have cq := HQ.out w2 K.out; have c4 := HP4.out w2 K.out; skip)
          | (go_at_call 207; (with_reducible refine (C4.out _ K.out).mono ?_); rintro e w3 ⟨rfl, k9⟩; have K := Lib.hid (K.out.trans k9 (fun _ h => h.elim)); clear k9; have cq := HQ.out w3 K.out; have c5 := HP5.out w3 K.out; skip))
        go_ret
        exact ⟨rfl, HK.out.trans K.out (fun _ h => h.elim)⟩
      | true =>
        cases z5 with
        | false =>
          go_enter Tryz.func105, Tryz.ntmps105
          go_wp2_with (first
            | (go_at_call 201; (try rw [HWE.out]); (with_reducible refine (C1.out _ K.out).mono ?_); rintro e w1 ⟨rfl, k9⟩; have K := Lib.hid (K.out.trans k9 (fun _ h => h.elim)); clear k9; have cq := HQ.out w1 K.out; have c3 := HP3.out w1 K.out; skip)
            | (go_at_call 204; (with_reducible refine (C3.out _ K.out).mono ?_); rintro e w2 ⟨rfl, k9⟩; have K := Lib.hid (K.out.trans k9 (fun _ h => h.elim)); clear k9; have cq := HQ.out w2 K.out; have c4 := HP4.out w2 K.out; skip)
            | (go_at_call 207; (with_reducible refine (C4.out _ K.out).mono ?_); rintro e w3 ⟨rfl, k9⟩; have K := Lib.hid (K.out.trans k9 (fun _ h => h.elim)); clear k9; have cq := HQ.out w3 K.out; have c5 := HP5.out w3 K.out; skip)
            | (go_at_call 211; (with_reducible refine (C5.out _ K.out).mono ?_); rintro e w4 ⟨rfl, k9⟩; have K := Lib.hid (K.out.trans k9 (fun _ h => h.elim)); clear k9; have cq := HQ.out w4 K.out; have c6 := HP6.out w4 K.out; skip))
          go_ret
          exact ⟨rfl, HK.out.trans K.out (fun _ h => h.elim)⟩
        | true =>
          go_enter Tryz.func105, Tryz.ntmps105
          go_wp2_with (first
            | (go_at_call 201; (try rw [HWE.out]); (with_reducible refine (C1.out _ K.out).mono ?_); rintro e w1 ⟨rfl, k9⟩; have K := Lib.hid (K.out.trans k9 (fun _ h => h.elim)); clear k9; have cq := HQ.out w1 K.out; have c3 := HP3.out w1 K.out; skip)
            | (go_at_call 204; (with_reducible refine (C3.out _ K.out).mono ?_); rintro e w2 ⟨rfl, k9⟩; have K := Lib.hid (K.out.trans k9 (fun _ h => h.elim)); clear k9; have cq := HQ.out w2 K.out; have c4 := HP4.out w2 K.out; skip)
            | (go_at_call 207; (with_reducible refine (C4.out _ K.out).mono ?_); rintro e w3 ⟨rfl, k9⟩; have K := Lib.hid (K.out.trans k9 (fun _ h => h.elim)); clear k9; have cq := HQ.out w3 K.out; have c5 := HP5.out w3 K.out; skip)
            | (go_at_call 211; (with_reducible refine (C5.out _ K.out).mono ?_); rintro e w4 ⟨rfl, k9⟩; have K := Lib.hid (K.out.trans k9 (fun _ h => h.elim)); clear k9; have cq := HQ.out w4 K.out; have c6 := HP6.out w4 K.out; skip)
            | (go_at_call 214; (with_reducible refine (C6.out _ K.out).mono ?_); rintro e w5 ⟨rfl, k9⟩; have K := Lib.hid (K.out.trans k9 (fun _ h => h.elim)); clear k9; skip))
          go_ret
          exact ⟨rfl, HK.out.trans K.out (fun _ h => h.elim)⟩
end Go.Proofs.YtheaghgockafmaaGreat.Wd
/- World files: the program's Check (made by tools/gendci.py). -/
namespace Go.Proofs.YtheaghgockafmaaGreat.Wd
open Go.RowKit Go.Maps Go.Proofs.YtheaghgockafmaaGreat Go.Proofs.YtheaghgockafmaaGreat.Lin Go.Sort
set_option maxRecDepth 100000

theorem bool_dec {b : Bool} {p : Prop} [Decidable p] (h : b = true ↔ p) : b = decide p := by
  cases b
  · symm; rw [decide_eq_false_iff_not]; exact fun hp => by have := h.2 hp; simp at this
  · symm; rw [decide_eq_true_eq]; exact h.1 rfl
theorem okRec_split (x : RecM) : okRec x = (okRecU x && decide (x.needs.Pairwise (fun a b => a ≤ b))) := by
  rw [Bool.eq_iff_iff]
  unfold okRec okRecU
  simp only [Bool.and_eq_true, decide_eq_true_eq, List.all_eq_true]
  constructor
  · rintro ⟨⟨⟨h1, h2⟩, h3⟩, h4, h5⟩
    exact ⟨⟨⟨h1, h2, h3⟩, h4⟩, h5⟩
  · rintro ⟨⟨⟨h1, h2, h3⟩, h4⟩, h5⟩
    exact ⟨⟨⟨h1, h2⟩, h3⟩, h4, h5⟩
theorem okShop_split (x : ShopM) : okShop x = (okShopU x && decide (x.items.Pairwise (fun a b => a < b))) := by
  rw [Bool.eq_iff_iff]
  unfold okShop okShopU
  simp only [Bool.and_eq_true, decide_eq_true_eq, List.all_eq_true]
  constructor
  · rintro ⟨⟨⟨h1, h2⟩, h3⟩, h4, h5⟩
    exact ⟨⟨⟨⟨h1, h2⟩, h3⟩, h4⟩, h5⟩
  · rintro ⟨⟨⟨⟨h1, h2⟩, h3⟩, h4⟩, h5⟩
    exact ⟨⟨⟨h1, h2⟩, h3⟩, h4, h5⟩

set_option maxHeartbeats 4000000 in
theorem isSortedRecipe_any {w : World} (x : RecM) {v : Value} (hv : Seen w 1 v x.needs.length (icells x.needs)) (hl : x.needs.length ≤ 1000000) :
    Calls Tryz.prog 194 #[.agg (recC (x, v)).toArray] w fun e w' => e = .returned (.bool (okRec x)) ∧ Keep (fun _ => False) w w' := by
  obtain ⟨hl1, va, vc, rfl, hv1, hv2, hv3⟩ := hv
  have HV : Hid (Seen w 1 (.slice va x.needs.length vc) x.needs.length (icells x.needs)) := Lib.hid ⟨hl1, va, vc, rfl, hv1, hv2, hv3⟩
  unfold maxLen at hv2
  clear hl1 hv3
  obtain ⟨W2, hW2⟩ : ∃ W2, W2 = w.alloc (.cells (recC (x, .slice va x.needs.length vc)).toArray 135) := ⟨_, rfl⟩
  have hk : Keep (fun _ => False) w W2 := by rw [hW2]; exact (Keep.refl _ w).alloc _
  have hb1 : W2.cell? ⟨w.heap.size, 1, none⟩ = some (.slice va x.needs.length vc) := by rw [hW2, cell_of_row _ _ _ _ _ _ (heap_alloc_new w _)]; rfl
  have HCELL : Hid (∀ w9, Keep (fun _ => False) W2 w9 → w9.cell? ⟨w.heap.size, 1, none⟩ = some (.slice va x.needs.length vc)) := Lib.hid (fun w9 k => (k.cell (cell_lt hb1) (fun h => h) _).trans hb1)
  have HC := Lib.hid (isRecipe_any (w := W2) x (HV.out.keep hk (fun _ _ _ h => h)))
  have HC2 : Hid (∀ w9, Keep (fun _ => False) w w9 → Calls Tryz.prog 291 #[.slice va x.needs.length vc] w9 fun e w' => e = .returned (.bool (decide (x.needs.Pairwise (fun a b => a ≤ b)))) ∧ Keep (fun _ => False) w9 w') := Lib.hid (fun w9 k => (isSorted_any (HV.out.keep k (fun _ _ _ h => h)) hl).mono fun e w' hh => by
    obtain ⟨b, he, hb, hkk⟩ := hh
    exact ⟨by rw [he, bool_dec hb], hkk⟩)
  have HK := Lib.hid hk
  have HWE := Lib.hid hW2.symm
  rw [okRec_split]
  generalize decide (x.needs.Pairwise (fun a b => a ≤ b)) = z2 at *
  generalize okRecU x = z at *
  simp only [recC] at HWE HC ⊢
  clear hW2 hk hb1
  cases z with
  | false =>
    rw [Bool.false_and]
    go_enter Tryz.func194, Tryz.ntmps194
    go_wp2_with (go_at_call 290; rw [HWE.out]; (refine HC.out.mono ?_); rintro e w9 ⟨rfl, k9⟩; have K9 := Lib.hid k9; clear k9)
    go_ret
    exact ⟨rfl, HK.out.trans K9.out (fun _ h => h.elim)⟩
  | true =>
    rw [Bool.true_and]
    go_enter Tryz.func194, Tryz.ntmps194
    go_wp2_with (first
      | (go_at_call 290; rw [HWE.out]; (refine HC.out.mono ?_); rintro e w9 ⟨rfl, k9⟩; have K9 := Lib.hid (HK.out.trans k9 (fun _ h => h.elim)); have cc1 := HCELL.out w9 k9; clear k9)
      | (go_at_call 291; (with_reducible refine (HC2.out _ K9.out).mono ?_); rintro e w8 ⟨rfl, k8⟩; have K8 := Lib.hid k8; clear k8))
    go_ret
    exact ⟨rfl, K9.out.trans K8.out (fun _ h => h.elim)⟩
theorem Tryz.en_isSortedRecipe : ∀ args w, (callFunc 194 args).run Tryz.prog w = .ok (.enter 194 args) w := enters_of Tryz.func194 (by kernel_rfl) rfl

set_option maxHeartbeats 4000000 in
theorem isSortedShop_any {w : World} (x : ShopM) {v : Value} (hv : Seen w 1 v x.items.length (icells x.items)) (hl : x.items.length ≤ 1000000) :
    Calls Tryz.prog 200 #[.agg (shopC (x, v)).toArray] w fun e w' => e = .returned (.bool (okShop x)) ∧ Keep (fun _ => False) w w' := by
  obtain ⟨hl1, va, vc, rfl, hv1, hv2, hv3⟩ := hv
  have HV : Hid (Seen w 1 (.slice va x.items.length vc) x.items.length (icells x.items)) := Lib.hid ⟨hl1, va, vc, rfl, hv1, hv2, hv3⟩
  unfold maxLen at hv2
  clear hl1 hv3
  obtain ⟨W2, hW2⟩ : ∃ W2, W2 = w.alloc (.cells (shopC (x, .slice va x.items.length vc)).toArray 107) := ⟨_, rfl⟩
  have hk : Keep (fun _ => False) w W2 := by rw [hW2]; exact (Keep.refl _ w).alloc _
  have hb1 : W2.cell? ⟨w.heap.size, 2, none⟩ = some (.slice va x.items.length vc) := by rw [hW2, cell_of_row _ _ _ _ _ _ (heap_alloc_new w _)]; rfl
  have HCELL : Hid (∀ w9, Keep (fun _ => False) W2 w9 → w9.cell? ⟨w.heap.size, 2, none⟩ = some (.slice va x.items.length vc)) := Lib.hid (fun w9 k => (k.cell (cell_lt hb1) (fun h => h) _).trans hb1)
  have HC := Lib.hid (isShop_any (w := W2) x (HV.out.keep hk (fun _ _ _ h => h)))
  have HC2 : Hid (∀ w9, Keep (fun _ => False) w w9 → Calls Tryz.prog 295 #[.slice va x.items.length vc, .func (.func 296) #[] #[]] w9 fun e w' => e = .returned (.bool (decide (x.items.Pairwise (fun a b => a < b)))) ∧ Keep (fun _ => False) w9 w') := Lib.hid (fun w9 k => (risesInt_any (by have := HV.out.keep k (fun _ _ _ h => h); rwa [icells_flatC] at this) hl).mono fun e w' hh => by
    obtain ⟨b, he, hb, hkk⟩ := hh
    exact ⟨by rw [he, bool_dec hb], hkk⟩)
  have HK := Lib.hid hk
  have HWE := Lib.hid hW2.symm
  rw [okShop_split]
  generalize decide (x.items.Pairwise (fun a b => a < b)) = z2 at *
  generalize okShopU x = z at *
  simp only [shopC] at HWE HC ⊢
  clear hW2 hk hb1
  cases z with
  | false =>
    rw [Bool.false_and]
    go_enter Tryz.func200, Tryz.ntmps200
    go_wp2_with (go_at_call 294; rw [HWE.out]; (refine HC.out.mono ?_); rintro e w9 ⟨rfl, k9⟩; have K9 := Lib.hid k9; clear k9)
    go_ret
    exact ⟨rfl, HK.out.trans K9.out (fun _ h => h.elim)⟩
  | true =>
    rw [Bool.true_and]
    go_enter Tryz.func200, Tryz.ntmps200
    go_wp2_with (first
      | (go_at_call 294; rw [HWE.out]; (refine HC.out.mono ?_); rintro e w9 ⟨rfl, k9⟩; have K9 := Lib.hid (HK.out.trans k9 (fun _ h => h.elim)); have cc1 := HCELL.out w9 k9; clear k9)
      | (go_at_call 295; (with_reducible refine (HC2.out _ K9.out).mono ?_); rintro e w8 ⟨rfl, k8⟩; have K8 := Lib.hid k8; clear k8))
    go_ret
    exact ⟨rfl, K9.out.trans K8.out (fun _ h => h.elim)⟩
theorem Tryz.en_isSortedShop : ∀ args w, (callFunc 200 args).run Tryz.prog w = .ok (.enter 200 args) w := enters_of Tryz.func200 (by kernel_rfl) rfl

/-- A list as it must be. -/
def tableB {α : Type} (ok : α → Bool) (key : α → Int) (L : List α) : Bool := decide (L.length ≤ 60) && L.all ok && decide (L.Pairwise (fun a b => key a < key b))
theorem tableB_iff {α : Type} (ok : α → Bool) (key : α → Int) (L : List α) : tableB ok key L = true ↔ Rise ok key L ∧ L.length ≤ 60 := by
  unfold tableB Rise
  simp only [Bool.and_eq_true, decide_eq_true_eq, List.all_eq_true]
  exact ⟨fun ⟨⟨h1, h2⟩, h3⟩ => ⟨⟨h2, h3⟩, h1⟩, fun ⟨⟨h2, h3⟩, h1⟩ => ⟨⟨h1, h2⟩, h3⟩⟩

set_option maxHeartbeats 4000000 in
theorem isTableRoom_any {w : World} {v : Value} {L : List RoomM} (h : Rec w 127 roomC 10 v L) (hl : L.length ≤ 1000000) (hn : ∀ x ∈ L, x.name.size ≤ 1000000) :
    Calls Tryz.prog 183 #[v, .int .i64 60, .func (.func 184) #[] #[], .func (.func 185) #[] #[]] w fun e w' => e = .returned (.bool (tableB okRoom RoomM.id L)) ∧ Keep (fun _ => False) w w' := by
  have CA : Hid (∀ w9, Keep (fun _ => False) w w9 → Calls Tryz.prog 201 #[v, .func (.func 185) #[] #[]] w9 fun e w' => e = .returned (.bool (L.all okRoom)) ∧ Keep (fun _ => False) w9 w') := Lib.hid (fun w9 k => allRoom_any (h.row.seen.keep k (fun _ _ _ h => h)) okRoom (lb := #[]) Tryz.en_isRoom (fun x hx w8 _ => isRoom_any (w := w8) x (hn x hx)))
  have CR0 : ∀ w9, Keep (fun _ => False) w w9 → Calls Tryz.prog 278 #[v, .func (.func 184) #[] #[]] w9 fun e w' => ∃ b, e = .returned (.bool b) ∧ (b = true ↔ L.Pairwise (fun a b => a.id < b.id)) ∧ Keep (fun _ => False) w9 w' := fun w9 k => risesRoom_any (h.row.seen.keep k (fun _ _ _ h => h)) hl
  have CR : Hid (∀ w9, Keep (fun _ => False) w w9 → Calls Tryz.prog 278 #[v, .func (.func 184) #[] #[]] w9 fun e w' => e = .returned (.bool (decide (L.Pairwise (fun a b => a.id < b.id)))) ∧ Keep (fun _ => False) w9 w') := Lib.hid (fun w9 k => (CR0 w9 k).mono fun e w' hh => by
    obtain ⟨b, he, hb, hkk⟩ := hh
    exact ⟨by rw [he, bool_dec hb], hkk⟩)
  clear CR0
  obtain ⟨a, cap, rfl, hc1, hc2⟩ := h.slice
  unfold maxLen at hc2
  unfold tableB
  generalize decide (L.Pairwise (fun a b => a.id < b.id)) = z3 at *
  generalize L.all okRoom = z2 at *
  have K : Hid (Keep (fun _ => False) w w) := Lib.hid (Keep.refl _ _)
  clear h hl hn
  generalize L.length = m at *
  by_cases hm : m ≤ 60
  · have d1 : decide ((m : Int) ≤ 60) = true := by rw [decide_eq_true_eq]; omega
    rw [show decide (m ≤ 60) = true by rw [decide_eq_true_eq]; exact hm, Bool.true_and]
    cases z2 with
    | false =>
      rw [Bool.false_and]
      go_enter Tryz.func183, Tryz.ntmps183
      go_wp2_with (go_at_call 201; (with_reducible refine (CA.out _ K.out).mono ?_); rintro e w9 ⟨rfl, k9⟩; have K9 := Lib.hid k9; clear k9)
      go_ret
      exact ⟨rfl, K9.out⟩
    | true =>
      rw [Bool.true_and]
      go_enter Tryz.func183, Tryz.ntmps183
      go_wp2_with (first
        | (go_at_call 201; (with_reducible refine (CA.out _ K.out).mono ?_); rintro e w9 ⟨rfl, k9⟩; have K9 := Lib.hid k9; clear k9)
        | (go_at_call 278; (with_reducible refine (CR.out _ K9.out).mono ?_); rintro e w8 ⟨rfl, k8⟩; have K8 := Lib.hid k8; clear k8))
      go_ret
      exact ⟨rfl, K9.out.trans K8.out (fun _ h => h.elim)⟩
  · have d1 : decide ((m : Int) ≤ 60) = false := by rw [decide_eq_false_iff_not]; omega
    rw [show decide (m ≤ 60) = false by rw [decide_eq_false_iff_not]; exact hm, Bool.false_and, Bool.false_and]
    go_enter Tryz.func183, Tryz.ntmps183
    go_wp2
    go_ret
    exact ⟨rfl, K.out⟩

set_option maxHeartbeats 4000000 in
theorem isTableProto_any {w : World} {v : Value} {L : List ProtoM} (h : Rec w 133 protoC 5 v L) (hl : L.length ≤ 1000000) (hn : ∀ x ∈ L, x.name.size ≤ 1000000) :
    Calls Tryz.prog 186 #[v, .int .i64 60, .func (.func 187) #[] #[], .func (.func 188) #[] #[]] w fun e w' => e = .returned (.bool (tableB okProto ProtoM.id L)) ∧ Keep (fun _ => False) w w' := by
  have CA : Hid (∀ w9, Keep (fun _ => False) w w9 → Calls Tryz.prog 284 #[v, .func (.func 188) #[] #[]] w9 fun e w' => e = .returned (.bool (L.all okProto)) ∧ Keep (fun _ => False) w9 w') := Lib.hid (fun w9 k => allProto_any (h.row.seen.keep k (fun _ _ _ h => h)) okProto (lb := #[]) Tryz.en_isProto (fun x hx w8 _ => isProto_any (w := w8) x (hn x hx)))
  have CR0 : ∀ w9, Keep (fun _ => False) w w9 → Calls Tryz.prog 285 #[v, .func (.func 187) #[] #[]] w9 fun e w' => ∃ b, e = .returned (.bool b) ∧ (b = true ↔ L.Pairwise (fun a b => a.id < b.id)) ∧ Keep (fun _ => False) w9 w' := fun w9 k => risesProto_any (h.row.seen.keep k (fun _ _ _ h => h)) hl
  have CR : Hid (∀ w9, Keep (fun _ => False) w w9 → Calls Tryz.prog 285 #[v, .func (.func 187) #[] #[]] w9 fun e w' => e = .returned (.bool (decide (L.Pairwise (fun a b => a.id < b.id)))) ∧ Keep (fun _ => False) w9 w') := Lib.hid (fun w9 k => (CR0 w9 k).mono fun e w' hh => by
    obtain ⟨b, he, hb, hkk⟩ := hh
    exact ⟨by rw [he, bool_dec hb], hkk⟩)
  clear CR0
  obtain ⟨a, cap, rfl, hc1, hc2⟩ := h.slice
  unfold maxLen at hc2
  unfold tableB
  generalize decide (L.Pairwise (fun a b => a.id < b.id)) = z3 at *
  generalize L.all okProto = z2 at *
  have K : Hid (Keep (fun _ => False) w w) := Lib.hid (Keep.refl _ _)
  clear h hl hn
  generalize L.length = m at *
  by_cases hm : m ≤ 60
  · have d1 : decide ((m : Int) ≤ 60) = true := by rw [decide_eq_true_eq]; omega
    rw [show decide (m ≤ 60) = true by rw [decide_eq_true_eq]; exact hm, Bool.true_and]
    cases z2 with
    | false =>
      rw [Bool.false_and]
      go_enter Tryz.func186, Tryz.ntmps186
      go_wp2_with (go_at_call 284; (with_reducible refine (CA.out _ K.out).mono ?_); rintro e w9 ⟨rfl, k9⟩; have K9 := Lib.hid k9; clear k9)
      go_ret
      exact ⟨rfl, K9.out⟩
    | true =>
      rw [Bool.true_and]
      go_enter Tryz.func186, Tryz.ntmps186
      go_wp2_with (first
        | (go_at_call 284; (with_reducible refine (CA.out _ K.out).mono ?_); rintro e w9 ⟨rfl, k9⟩; have K9 := Lib.hid k9; clear k9)
        | (go_at_call 285; (with_reducible refine (CR.out _ K9.out).mono ?_); rintro e w8 ⟨rfl, k8⟩; have K8 := Lib.hid k8; clear k8))
      go_ret
      exact ⟨rfl, K9.out.trans K8.out (fun _ h => h.elim)⟩
  · have d1 : decide ((m : Int) ≤ 60) = false := by rw [decide_eq_false_iff_not]; omega
    rw [show decide (m ≤ 60) = false by rw [decide_eq_false_iff_not]; exact hm, Bool.false_and, Bool.false_and]
    go_enter Tryz.func186, Tryz.ntmps186
    go_wp2
    go_ret
    exact ⟨rfl, K.out⟩

set_option maxHeartbeats 4000000 in
theorem isTableMob_any {w : World} {v : Value} {L : List MobPM} (h : Rec w 105 mobpC 7 v L) (hl : L.length ≤ 1000000) (hn : ∀ x ∈ L, x.name.size ≤ 1000000) :
    Calls Tryz.prog 189 #[v, .int .i64 60, .func (.func 190) #[] #[], .func (.func 191) #[] #[]] w fun e w' => e = .returned (.bool (tableB okMobP MobPM.id L)) ∧ Keep (fun _ => False) w w' := by
  have CA : Hid (∀ w9, Keep (fun _ => False) w w9 → Calls Tryz.prog 204 #[v, .func (.func 191) #[] #[]] w9 fun e w' => e = .returned (.bool (L.all okMobP)) ∧ Keep (fun _ => False) w9 w') := Lib.hid (fun w9 k => allMob_any (h.row.seen.keep k (fun _ _ _ h => h)) okMobP (lb := #[]) Tryz.en_isMob (fun x hx w8 _ => isMob_any (w := w8) x (hn x hx)))
  have CR0 : ∀ w9, Keep (fun _ => False) w w9 → Calls Tryz.prog 287 #[v, .func (.func 190) #[] #[]] w9 fun e w' => ∃ b, e = .returned (.bool b) ∧ (b = true ↔ L.Pairwise (fun a b => a.id < b.id)) ∧ Keep (fun _ => False) w9 w' := fun w9 k => risesMob_any (h.row.seen.keep k (fun _ _ _ h => h)) hl
  have CR : Hid (∀ w9, Keep (fun _ => False) w w9 → Calls Tryz.prog 287 #[v, .func (.func 190) #[] #[]] w9 fun e w' => e = .returned (.bool (decide (L.Pairwise (fun a b => a.id < b.id)))) ∧ Keep (fun _ => False) w9 w') := Lib.hid (fun w9 k => (CR0 w9 k).mono fun e w' hh => by
    obtain ⟨b, he, hb, hkk⟩ := hh
    exact ⟨by rw [he, bool_dec hb], hkk⟩)
  clear CR0
  obtain ⟨a, cap, rfl, hc1, hc2⟩ := h.slice
  unfold maxLen at hc2
  unfold tableB
  generalize decide (L.Pairwise (fun a b => a.id < b.id)) = z3 at *
  generalize L.all okMobP = z2 at *
  have K : Hid (Keep (fun _ => False) w w) := Lib.hid (Keep.refl _ _)
  clear h hl hn
  generalize L.length = m at *
  by_cases hm : m ≤ 60
  · have d1 : decide ((m : Int) ≤ 60) = true := by rw [decide_eq_true_eq]; omega
    rw [show decide (m ≤ 60) = true by rw [decide_eq_true_eq]; exact hm, Bool.true_and]
    cases z2 with
    | false =>
      rw [Bool.false_and]
      go_enter Tryz.func189, Tryz.ntmps189
      go_wp2_with (go_at_call 204; (with_reducible refine (CA.out _ K.out).mono ?_); rintro e w9 ⟨rfl, k9⟩; have K9 := Lib.hid k9; clear k9)
      go_ret
      exact ⟨rfl, K9.out⟩
    | true =>
      rw [Bool.true_and]
      go_enter Tryz.func189, Tryz.ntmps189
      go_wp2_with (first
        | (go_at_call 204; (with_reducible refine (CA.out _ K.out).mono ?_); rintro e w9 ⟨rfl, k9⟩; have K9 := Lib.hid k9; clear k9)
        | (go_at_call 287; (with_reducible refine (CR.out _ K9.out).mono ?_); rintro e w8 ⟨rfl, k8⟩; have K8 := Lib.hid k8; clear k8))
      go_ret
      exact ⟨rfl, K9.out.trans K8.out (fun _ h => h.elim)⟩
  · have d1 : decide ((m : Int) ≤ 60) = false := by rw [decide_eq_false_iff_not]; omega
    rw [show decide (m ≤ 60) = false by rw [decide_eq_false_iff_not]; exact hm, Bool.false_and, Bool.false_and]
    go_enter Tryz.func189, Tryz.ntmps189
    go_wp2
    go_ret
    exact ⟨rfl, K.out⟩

set_option maxHeartbeats 4000000 in
theorem isTableRec_any {w : World} {v : Value} {L : List RecM} {rr : List (RecM × Value)} (h : Rec w 135 recC 2 v rr) (hf : rr.map Prod.fst = L) (hi : ∀ x ∈ rr, Ints w x.2 x.1.needs) (hl : L.length ≤ 1000000) (hn : ∀ x ∈ L, x.needs.length ≤ 1000000) :
    Calls Tryz.prog 192 #[v, .int .i64 60, .func (.func 193) #[] #[], .func (.func 194) #[] #[]] w fun e w' => e = .returned (.bool (tableB okRec RecM.out L)) ∧ Keep (fun _ => False) w w' := by
  have hlen : rr.length = L.length := by rw [← hf, List.length_map]
  have hS : ∀ w9, Keep (fun _ => False) w w9 → Seen w9 2 v (rr.map fun x => (x.1, partS x.2)).length (flat recS (rr.map fun x => (x.1, partS x.2))) := fun w9 k => by
    have hb := map_back rr (fun x hx => by obtain ⟨a, c, e, _⟩ := (hi x hx).slice; exact ⟨a, _, c, e⟩)
    have := h.row.seen.keep k (fun _ _ _ h => h)
    rw [← hb, flat_back (g := recS) (fun y => rfl), List.length_map] at this
    exact this
  have CA : Hid (∀ w9, Keep (fun _ => False) w w9 → Calls Tryz.prog 207 #[v, .func (.func 194) #[] #[]] w9 fun e w' => e = .returned (.bool (L.all okRec)) ∧ Keep (fun _ => False) w9 w') := Lib.hid (fun w9 k => by
    have := allRec_any (h.row.seen.keep k (fun _ _ _ h => h)) (fun x hx => by obtain ⟨a, c, e, _⟩ := (hi x hx).slice; exact ⟨a, c, e⟩) (fun x => okRec x.1) (lb := #[]) Tryz.en_isSortedRecipe (fun x xa xc hx w8 k8 => isSortedRecipe_any (w := w8) x (((hi _ hx).1.keep k (fun _ _ _ h => h)).keep k8 (fun _ _ _ h => h)) (hn x (by rw [← hf]; exact List.mem_map.2 ⟨_, hx, rfl⟩)))
    rwa [map_all hf] at this)
  have CR0 : ∀ w9, Keep (fun _ => False) w w9 → Calls Tryz.prog 289 #[v, .func (.func 193) #[] #[]] w9 fun e w' => ∃ b, e = .returned (.bool b) ∧ (b = true ↔ L.Pairwise (fun a b => a.out < b.out)) ∧ Keep (fun _ => False) w9 w' := fun w9 k => by
    refine (risesRec_any (hS w9 k) (by rw [List.length_map]; omega)).mono fun e w' hh => ?_
    obtain ⟨b, he, hb, hkk⟩ := hh
    refine ⟨b, he, hb.trans ?_, hkk⟩
    rw [← hf, List.pairwise_map, List.pairwise_map]
  have CR : Hid (∀ w9, Keep (fun _ => False) w w9 → Calls Tryz.prog 289 #[v, .func (.func 193) #[] #[]] w9 fun e w' => e = .returned (.bool (decide (L.Pairwise (fun a b => a.out < b.out)))) ∧ Keep (fun _ => False) w9 w') := Lib.hid (fun w9 k => (CR0 w9 k).mono fun e w' hh => by
    obtain ⟨b, he, hb, hkk⟩ := hh
    exact ⟨by rw [he, bool_dec hb], hkk⟩)
  clear CR0
  obtain ⟨a, cap, rfl, hc1, hc2⟩ := h.slice
  unfold maxLen at hc2
  unfold tableB
  generalize decide (L.Pairwise (fun a b => a.out < b.out)) = z3 at *
  generalize L.all okRec = z2 at *
  have K : Hid (Keep (fun _ => False) w w) := Lib.hid (Keep.refl _ _)
  rw [← hlen]
  clear hS hf hi hn hlen h hl
  generalize rr.length = m at *
  by_cases hm : m ≤ 60
  · have d1 : decide ((m : Int) ≤ 60) = true := by rw [decide_eq_true_eq]; omega
    rw [show decide (m ≤ 60) = true by rw [decide_eq_true_eq]; exact hm, Bool.true_and]
    cases z2 with
    | false =>
      rw [Bool.false_and]
      go_enter Tryz.func192, Tryz.ntmps192
      go_wp2_with (go_at_call 207; (with_reducible refine (CA.out _ K.out).mono ?_); rintro e w9 ⟨rfl, k9⟩; have K9 := Lib.hid k9; clear k9)
      go_ret
      exact ⟨rfl, K9.out⟩
    | true =>
      rw [Bool.true_and]
      go_enter Tryz.func192, Tryz.ntmps192
      go_wp2_with (first
        | (go_at_call 207; (with_reducible refine (CA.out _ K.out).mono ?_); rintro e w9 ⟨rfl, k9⟩; have K9 := Lib.hid k9; clear k9)
        | (go_at_call 289; (with_reducible refine (CR.out _ K9.out).mono ?_); rintro e w8 ⟨rfl, k8⟩; have K8 := Lib.hid k8; clear k8))
      go_ret
      exact ⟨rfl, K9.out.trans K8.out (fun _ h => h.elim)⟩
  · have d1 : decide ((m : Int) ≤ 60) = false := by rw [decide_eq_false_iff_not]; omega
    rw [show decide (m ≤ 60) = false by rw [decide_eq_false_iff_not]; exact hm, Bool.false_and, Bool.false_and]
    go_enter Tryz.func192, Tryz.ntmps192
    go_wp2
    go_ret
    exact ⟨rfl, K.out⟩

set_option maxHeartbeats 4000000 in
theorem isTableQuest_any {w : World} {v : Value} {L : List QuestM} (h : Rec w 137 questC 5 v L) (hl : L.length ≤ 1000000) :
    Calls Tryz.prog 195 #[v, .int .i64 60, .func (.func 196) #[] #[], .func (.func 197) #[] #[]] w fun e w' => e = .returned (.bool (tableB okQuest QuestM.id L)) ∧ Keep (fun _ => False) w w' := by
  have CA : Hid (∀ w9, Keep (fun _ => False) w w9 → Calls Tryz.prog 211 #[v, .func (.func 197) #[] #[]] w9 fun e w' => e = .returned (.bool (L.all okQuest)) ∧ Keep (fun _ => False) w9 w') := Lib.hid (fun w9 k => allQuest_any (h.row.seen.keep k (fun _ _ _ h => h)) okQuest (lb := #[]) Tryz.en_isQuest (fun x hx w8 _ => isQuest_any (w := w8) x))
  have CR0 : ∀ w9, Keep (fun _ => False) w w9 → Calls Tryz.prog 292 #[v, .func (.func 196) #[] #[]] w9 fun e w' => ∃ b, e = .returned (.bool b) ∧ (b = true ↔ L.Pairwise (fun a b => a.id < b.id)) ∧ Keep (fun _ => False) w9 w' := fun w9 k => risesQuest_any (h.row.seen.keep k (fun _ _ _ h => h)) hl
  have CR : Hid (∀ w9, Keep (fun _ => False) w w9 → Calls Tryz.prog 292 #[v, .func (.func 196) #[] #[]] w9 fun e w' => e = .returned (.bool (decide (L.Pairwise (fun a b => a.id < b.id)))) ∧ Keep (fun _ => False) w9 w') := Lib.hid (fun w9 k => (CR0 w9 k).mono fun e w' hh => by
    obtain ⟨b, he, hb, hkk⟩ := hh
    exact ⟨by rw [he, bool_dec hb], hkk⟩)
  clear CR0
  obtain ⟨a, cap, rfl, hc1, hc2⟩ := h.slice
  unfold maxLen at hc2
  unfold tableB
  generalize decide (L.Pairwise (fun a b => a.id < b.id)) = z3 at *
  generalize L.all okQuest = z2 at *
  have K : Hid (Keep (fun _ => False) w w) := Lib.hid (Keep.refl _ _)
  clear h hl
  generalize L.length = m at *
  by_cases hm : m ≤ 60
  · have d1 : decide ((m : Int) ≤ 60) = true := by rw [decide_eq_true_eq]; omega
    rw [show decide (m ≤ 60) = true by rw [decide_eq_true_eq]; exact hm, Bool.true_and]
    cases z2 with
    | false =>
      rw [Bool.false_and]
      go_enter Tryz.func195, Tryz.ntmps195
      go_wp2_with (go_at_call 211; (with_reducible refine (CA.out _ K.out).mono ?_); rintro e w9 ⟨rfl, k9⟩; have K9 := Lib.hid k9; clear k9)
      go_ret
      exact ⟨rfl, K9.out⟩
    | true =>
      rw [Bool.true_and]
      go_enter Tryz.func195, Tryz.ntmps195
      go_wp2_with (first
        | (go_at_call 211; (with_reducible refine (CA.out _ K.out).mono ?_); rintro e w9 ⟨rfl, k9⟩; have K9 := Lib.hid k9; clear k9)
        | (go_at_call 292; (with_reducible refine (CR.out _ K9.out).mono ?_); rintro e w8 ⟨rfl, k8⟩; have K8 := Lib.hid k8; clear k8))
      go_ret
      exact ⟨rfl, K9.out.trans K8.out (fun _ h => h.elim)⟩
  · have d1 : decide ((m : Int) ≤ 60) = false := by rw [decide_eq_false_iff_not]; omega
    rw [show decide (m ≤ 60) = false by rw [decide_eq_false_iff_not]; exact hm, Bool.false_and, Bool.false_and]
    go_enter Tryz.func195, Tryz.ntmps195
    go_wp2
    go_ret
    exact ⟨rfl, K.out⟩

set_option maxHeartbeats 4000000 in
theorem isTableShop_any {w : World} {v : Value} {L : List ShopM} {rr : List (ShopM × Value)} (h : Rec w 107 shopC 3 v rr) (hf : rr.map Prod.fst = L) (hi : ∀ x ∈ rr, Ints w x.2 x.1.items) (hl : L.length ≤ 1000000) (hn : ∀ x ∈ L, x.items.length ≤ 1000000) :
    Calls Tryz.prog 198 #[v, .int .i64 60, .func (.func 199) #[] #[], .func (.func 200) #[] #[]] w fun e w' => e = .returned (.bool (tableB okShop ShopM.room L)) ∧ Keep (fun _ => False) w w' := by
  have hlen : rr.length = L.length := by rw [← hf, List.length_map]
  have hS : ∀ w9, Keep (fun _ => False) w w9 → Seen w9 3 v (rr.map fun x => (x.1, partS x.2)).length (flat shopS (rr.map fun x => (x.1, partS x.2))) := fun w9 k => by
    have hb := map_back rr (fun x hx => by obtain ⟨a, c, e, _⟩ := (hi x hx).slice; exact ⟨a, _, c, e⟩)
    have := h.row.seen.keep k (fun _ _ _ h => h)
    rw [← hb, flat_back (g := shopS) (fun y => rfl), List.length_map] at this
    exact this
  have CA : Hid (∀ w9, Keep (fun _ => False) w w9 → Calls Tryz.prog 214 #[v, .func (.func 200) #[] #[]] w9 fun e w' => e = .returned (.bool (L.all okShop)) ∧ Keep (fun _ => False) w9 w') := Lib.hid (fun w9 k => by
    have := allShop_any (h.row.seen.keep k (fun _ _ _ h => h)) (fun x hx => by obtain ⟨a, c, e, _⟩ := (hi x hx).slice; exact ⟨a, c, e⟩) (fun x => okShop x.1) (lb := #[]) Tryz.en_isSortedShop (fun x xa xc hx w8 k8 => isSortedShop_any (w := w8) x (((hi _ hx).1.keep k (fun _ _ _ h => h)).keep k8 (fun _ _ _ h => h)) (hn x (by rw [← hf]; exact List.mem_map.2 ⟨_, hx, rfl⟩)))
    rwa [map_all hf] at this)
  have CR0 : ∀ w9, Keep (fun _ => False) w w9 → Calls Tryz.prog 293 #[v, .func (.func 199) #[] #[]] w9 fun e w' => ∃ b, e = .returned (.bool b) ∧ (b = true ↔ L.Pairwise (fun a b => a.room < b.room)) ∧ Keep (fun _ => False) w9 w' := fun w9 k => by
    refine (risesShop_any (hS w9 k) (by rw [List.length_map]; omega)).mono fun e w' hh => ?_
    obtain ⟨b, he, hb, hkk⟩ := hh
    refine ⟨b, he, hb.trans ?_, hkk⟩
    rw [← hf, List.pairwise_map, List.pairwise_map]
  have CR : Hid (∀ w9, Keep (fun _ => False) w w9 → Calls Tryz.prog 293 #[v, .func (.func 199) #[] #[]] w9 fun e w' => e = .returned (.bool (decide (L.Pairwise (fun a b => a.room < b.room)))) ∧ Keep (fun _ => False) w9 w') := Lib.hid (fun w9 k => (CR0 w9 k).mono fun e w' hh => by
    obtain ⟨b, he, hb, hkk⟩ := hh
    exact ⟨by rw [he, bool_dec hb], hkk⟩)
  clear CR0
  obtain ⟨a, cap, rfl, hc1, hc2⟩ := h.slice
  unfold maxLen at hc2
  unfold tableB
  generalize decide (L.Pairwise (fun a b => a.room < b.room)) = z3 at *
  generalize L.all okShop = z2 at *
  have K : Hid (Keep (fun _ => False) w w) := Lib.hid (Keep.refl _ _)
  rw [← hlen]
  clear hS hf hi hn hlen h hl
  generalize rr.length = m at *
  by_cases hm : m ≤ 60
  · have d1 : decide ((m : Int) ≤ 60) = true := by rw [decide_eq_true_eq]; omega
    rw [show decide (m ≤ 60) = true by rw [decide_eq_true_eq]; exact hm, Bool.true_and]
    cases z2 with
    | false =>
      rw [Bool.false_and]
      go_enter Tryz.func198, Tryz.ntmps198
      go_wp2_with (go_at_call 214; (with_reducible refine (CA.out _ K.out).mono ?_); rintro e w9 ⟨rfl, k9⟩; have K9 := Lib.hid k9; clear k9)
      go_ret
      exact ⟨rfl, K9.out⟩
    | true =>
      rw [Bool.true_and]
      go_enter Tryz.func198, Tryz.ntmps198
      go_wp2_with (first
        | (go_at_call 214; (with_reducible refine (CA.out _ K.out).mono ?_); rintro e w9 ⟨rfl, k9⟩; have K9 := Lib.hid k9; clear k9)
        | (go_at_call 293; (with_reducible refine (CR.out _ K9.out).mono ?_); rintro e w8 ⟨rfl, k8⟩; have K8 := Lib.hid k8; clear k8))
      go_ret
      exact ⟨rfl, K9.out.trans K8.out (fun _ h => h.elim)⟩
  · have d1 : decide ((m : Int) ≤ 60) = false := by rw [decide_eq_false_iff_not]; omega
    rw [show decide (m ≤ 60) = false by rw [decide_eq_false_iff_not]; exact hm, Bool.false_and, Bool.false_and]
    go_enter Tryz.func198, Tryz.ntmps198
    go_wp2
    go_ret
    exact ⟨rfl, K.out⟩

/-- No list, name, need is too long for the walk. -/
structure SzD (D : DbM) : Prop where
  n1 : D.rooms.length ≤ 1000000
  n2 : D.protos.length ≤ 1000000
  n3 : D.mobs.length ≤ 1000000
  n4 : D.recs.length ≤ 1000000
  n5 : D.quests.length ≤ 1000000
  n6 : D.shops.length ≤ 1000000
  a1 : ∀ x ∈ D.rooms, x.name.size ≤ 1000000
  a2 : ∀ x ∈ D.protos, x.name.size ≤ 1000000
  a3 : ∀ x ∈ D.mobs, x.name.size ≤ 1000000
  a4 : ∀ x ∈ D.recs, x.needs.length ≤ 1000000
  a6 : ∀ x ∈ D.shops, x.items.length ≤ 1000000
def tablesB (D : DbM) : Bool := decide (0 < D.rooms.length) && (tableB okRoom RoomM.id D.rooms) && (tableB okProto ProtoM.id D.protos) && (tableB okMobP MobPM.id D.mobs) && (tableB okRec RecM.out D.recs) && (tableB okQuest QuestM.id D.quests) && (tableB okShop ShopM.room D.shops)
theorem tables_iff (D : DbM) : tablesB D = true ↔ ¬ (D.rooms = [] ∨ ¬ RoomsOk D ∨ ¬ ThingsOk D ∨ ¬ RestOk D) := by
  unfold tablesB RoomsOk ThingsOk RestOk
  simp only [Bool.and_eq_true, decide_eq_true_eq, tableB_iff]
  constructor
  · rintro ⟨⟨⟨⟨⟨⟨h0, h1⟩, h2⟩, h3⟩, h4⟩, h5⟩, h6⟩ (h | h | h | h)
    · rw [h] at h0; simp at h0
    · exact h h1
    · exact h ⟨h2.1, h3.1, h2.2, h3.2⟩
    · exact h ⟨h4.1, h5.1, h6.1, h4.2, h5.2, h6.2⟩
  · intro h
    have g0 : D.rooms ≠ [] := fun e => h (.inl e)
    have g1 := Classical.byContradiction fun e => h (.inr (.inl e))
    obtain ⟨g2, g3, g4, g5⟩ := Classical.byContradiction fun e => h (.inr (.inr (.inl e)))
    obtain ⟨g6, g7, g8, g9, g10, g11⟩ := Classical.byContradiction fun e => h (.inr (.inr (.inr e)))
    exact ⟨⟨⟨⟨⟨⟨List.length_pos_iff.2 g0, g1⟩, ⟨g2, g4⟩⟩, ⟨g3, g5⟩⟩, ⟨g6, g9⟩⟩, ⟨g7, g10⟩⟩, ⟨g8, g11⟩⟩
set_option maxHeartbeats 8000000 in
theorem areTables_any {P : Nat → Prop} {w : World} {d : Nat} {D : DbM} (h : DbAt P w d 0 D) (hz : SzD D) :
    Calls Tryz.prog 104 #[.pointer (some ⟨d, 0, none⟩)] w fun e w' => e = .returned (.bool (tablesB D)) ∧ Keep (fun _ => False) w w' := by
  obtain ⟨v1, v2, v3, v4, v5, v6, rr, ss, hd, hr, h1, h2, h3, ⟨h4, h4a, h4b⟩, h5, ⟨h6, h6a, h6b⟩, _⟩ := h.ex
  obtain ⟨a1, k1, rfl, hk1, hk1b⟩ := h1.slice
  unfold maxLen at hk1b
  have HP1 : Hid (∀ w9, Keep (fun _ => False) w w9 → w9.cell? ⟨d, 0, none⟩ = some (.slice a1 D.rooms.length k1)) := Lib.hid (fun w9 k => (k.cell hd (fun h => h) _).trans (hr 0 _ rfl))
  have C1 : Hid (∀ w9, Keep (fun _ => False) w w9 → Calls Tryz.prog 183 #[.slice a1 D.rooms.length k1, .int .i64 60, .func (.func 184) #[] #[], .func (.func 185) #[] #[]] w9 fun e w' => e = .returned (.bool (tableB okRoom RoomM.id D.rooms)) ∧ Keep (fun _ => False) w9 w') := Lib.hid (fun w9 k => isTableRoom_any (h1.keep k (fun _ _ h => h)) hz.n1 hz.a1)
  have HP2 : Hid (∀ w9, Keep (fun _ => False) w w9 → w9.cell? ⟨d, 1, none⟩ = some v2) := Lib.hid (fun w9 k => (k.cell hd (fun h => h) _).trans (hr 1 _ rfl))
  have C2 : Hid (∀ w9, Keep (fun _ => False) w w9 → Calls Tryz.prog 186 #[v2, .int .i64 60, .func (.func 187) #[] #[], .func (.func 188) #[] #[]] w9 fun e w' => e = .returned (.bool (tableB okProto ProtoM.id D.protos)) ∧ Keep (fun _ => False) w9 w') := Lib.hid (fun w9 k => isTableProto_any (h2.keep k (fun _ _ h => h)) hz.n2 hz.a2)
  have HP3 : Hid (∀ w9, Keep (fun _ => False) w w9 → w9.cell? ⟨d, 2, none⟩ = some v3) := Lib.hid (fun w9 k => (k.cell hd (fun h => h) _).trans (hr 2 _ rfl))
  have C3 : Hid (∀ w9, Keep (fun _ => False) w w9 → Calls Tryz.prog 189 #[v3, .int .i64 60, .func (.func 190) #[] #[], .func (.func 191) #[] #[]] w9 fun e w' => e = .returned (.bool (tableB okMobP MobPM.id D.mobs)) ∧ Keep (fun _ => False) w9 w') := Lib.hid (fun w9 k => isTableMob_any (h3.keep k (fun _ _ h => h)) hz.n3 hz.a3)
  have HP4 : Hid (∀ w9, Keep (fun _ => False) w w9 → w9.cell? ⟨d, 3, none⟩ = some v4) := Lib.hid (fun w9 k => (k.cell hd (fun h => h) _).trans (hr 3 _ rfl))
  have C4 : Hid (∀ w9, Keep (fun _ => False) w w9 → Calls Tryz.prog 192 #[v4, .int .i64 60, .func (.func 193) #[] #[], .func (.func 194) #[] #[]] w9 fun e w' => e = .returned (.bool (tableB okRec RecM.out D.recs)) ∧ Keep (fun _ => False) w9 w') := Lib.hid (fun w9 k => isTableRec_any (h4.keep k (fun _ _ h => h)) h4a (fun y hy => (h4b y hy).keep k (fun _ _ _ h => h)) hz.n4 hz.a4)
  have HP5 : Hid (∀ w9, Keep (fun _ => False) w w9 → w9.cell? ⟨d, 4, none⟩ = some v5) := Lib.hid (fun w9 k => (k.cell hd (fun h => h) _).trans (hr 4 _ rfl))
  have C5 : Hid (∀ w9, Keep (fun _ => False) w w9 → Calls Tryz.prog 195 #[v5, .int .i64 60, .func (.func 196) #[] #[], .func (.func 197) #[] #[]] w9 fun e w' => e = .returned (.bool (tableB okQuest QuestM.id D.quests)) ∧ Keep (fun _ => False) w9 w') := Lib.hid (fun w9 k => isTableQuest_any (h5.keep k (fun _ _ h => h)) hz.n5)
  have HP6 : Hid (∀ w9, Keep (fun _ => False) w w9 → w9.cell? ⟨d, 5, none⟩ = some v6) := Lib.hid (fun w9 k => (k.cell hd (fun h => h) _).trans (hr 5 _ rfl))
  have C6 : Hid (∀ w9, Keep (fun _ => False) w w9 → Calls Tryz.prog 198 #[v6, .int .i64 60, .func (.func 199) #[] #[], .func (.func 200) #[] #[]] w9 fun e w' => e = .returned (.bool (tableB okShop ShopM.room D.shops)) ∧ Keep (fun _ => False) w9 w') := Lib.hid (fun w9 k => isTableShop_any (h6.keep k (fun _ _ h => h)) h6a (fun y hy => (h6b y hy).keep k (fun _ _ _ h => h)) hz.n6 hz.a6)
  unfold tablesB
  generalize tableB okRoom RoomM.id D.rooms = z1 at *
  generalize tableB okProto ProtoM.id D.protos = z2 at *
  generalize tableB okMobP MobPM.id D.mobs = z3 at *
  generalize tableB okRec RecM.out D.recs = z4 at *
  generalize tableB okQuest QuestM.id D.quests = z5 at *
  generalize tableB okShop ShopM.room D.shops = z6 at *
  have K : Hid (Keep (fun _ => False) w w) := Lib.hid (Keep.refl _ _)
  have c1 := HP1.out w K.out
  obtain ⟨m, hm⟩ : ∃ m, m = D.rooms.length := ⟨_, rfl⟩
  rw [← hm] at c1 C1 HP1 hk1 ⊢
  clear h hr h1 h2 h3 h4 h4a h4b h5 h6 h6a h6b hz hm
  by_cases hm0 : 0 < m
  · have d0 : decide (0 < (m : Int)) = true := by rw [decide_eq_true_eq]; omega
    rw [show decide (0 < m) = true by rw [decide_eq_true_eq]; exact hm0, Bool.true_and]
    cases z1 with
    | false =>
      simp only [Bool.false_and]
      go_enter Tryz.func104, Tryz.ntmps104
      go_wp2_with (first
        | (go_at_call 183; (with_reducible refine (C1.out _ K.out).mono ?_); rintro e w1 ⟨rfl, k9⟩; have K := Lib.hid (K.out.trans k9 (fun _ h => h.elim)); clear k9; have c2 := HP2.out w1 K.out; skip))
      go_ret
      exact ⟨rfl, K.out⟩
    | true =>
      cases z2 with
      | false =>
        simp only [Bool.true_and, Bool.false_and]
        go_enter Tryz.func104, Tryz.ntmps104
        go_wp2_with (first
          | (go_at_call 183; (with_reducible refine (C1.out _ K.out).mono ?_); rintro e w1 ⟨rfl, k9⟩; have K := Lib.hid (K.out.trans k9 (fun _ h => h.elim)); clear k9; have c2 := HP2.out w1 K.out; skip)
          | (go_at_call 186; (with_reducible refine (C2.out _ K.out).mono ?_); rintro e w2 ⟨rfl, k9⟩; have K := Lib.hid (K.out.trans k9 (fun _ h => h.elim)); clear k9; have c3 := HP3.out w2 K.out; skip))
        go_ret
        exact ⟨rfl, K.out⟩
      | true =>
        cases z3 with
        | false =>
          simp only [Bool.true_and, Bool.false_and]
          go_enter Tryz.func104, Tryz.ntmps104
          go_wp2_with (first
            | (go_at_call 183; (with_reducible refine (C1.out _ K.out).mono ?_); rintro e w1 ⟨rfl, k9⟩; have K := Lib.hid (K.out.trans k9 (fun _ h => h.elim)); clear k9; have c2 := HP2.out w1 K.out; skip)
            | (go_at_call 186; (with_reducible refine (C2.out _ K.out).mono ?_); rintro e w2 ⟨rfl, k9⟩; have K := Lib.hid (K.out.trans k9 (fun _ h => h.elim)); clear k9; have c3 := HP3.out w2 K.out; skip)
            | (go_at_call 189; (with_reducible refine (C3.out _ K.out).mono ?_); rintro e w3 ⟨rfl, k9⟩; have K := Lib.hid (K.out.trans k9 (fun _ h => h.elim)); clear k9; have c4 := HP4.out w3 K.out; skip))
          go_ret
          exact ⟨rfl, K.out⟩
        | true =>
          cases z4 with
          | false =>
            simp only [Bool.true_and, Bool.false_and]
            go_enter Tryz.func104, Tryz.ntmps104
            go_wp2_with (first
              | (go_at_call 183; (with_reducible refine (C1.out _ K.out).mono ?_); rintro e w1 ⟨rfl, k9⟩; have K := Lib.hid (K.out.trans k9 (fun _ h => h.elim)); clear k9; have c2 := HP2.out w1 K.out; skip)
              | (go_at_call 186; (with_reducible refine (C2.out _ K.out).mono ?_); rintro e w2 ⟨rfl, k9⟩; have K := Lib.hid (K.out.trans k9 (fun _ h => h.elim)); clear k9; have c3 := HP3.out w2 K.out; skip)
              | (go_at_call 189; (with_reducible refine (C3.out _ K.out).mono ?_); rintro e w3 ⟨rfl, k9⟩; have K := Lib.hid (K.out.trans k9 (fun _ h => h.elim)); clear k9; have c4 := HP4.out w3 K.out; skip)
              | (go_at_call 192; (with_reducible refine (C4.out _ K.out).mono ?_); rintro e w4 ⟨rfl, k9⟩; have K := Lib.hid (K.out.trans k9 (fun _ h => h.elim)); clear k9; have c5 := HP5.out w4 K.out; skip))
            go_ret
            exact ⟨rfl, K.out⟩
          | true =>
            cases z5 with
            | false =>
              simp only [Bool.true_and, Bool.false_and]
              go_enter Tryz.func104, Tryz.ntmps104
              go_wp2_with (first
                | (go_at_call 183; (with_reducible refine (C1.out _ K.out).mono ?_); rintro e w1 ⟨rfl, k9⟩; have K := Lib.hid (K.out.trans k9 (fun _ h => h.elim)); clear k9; have c2 := HP2.out w1 K.out; skip)
                | (go_at_call 186; (with_reducible refine (C2.out _ K.out).mono ?_); rintro e w2 ⟨rfl, k9⟩; have K := Lib.hid (K.out.trans k9 (fun _ h => h.elim)); clear k9; have c3 := HP3.out w2 K.out; skip)
                | (go_at_call 189; (with_reducible refine (C3.out _ K.out).mono ?_); rintro e w3 ⟨rfl, k9⟩; have K := Lib.hid (K.out.trans k9 (fun _ h => h.elim)); clear k9; have c4 := HP4.out w3 K.out; skip)
                | (go_at_call 192; (with_reducible refine (C4.out _ K.out).mono ?_); rintro e w4 ⟨rfl, k9⟩; have K := Lib.hid (K.out.trans k9 (fun _ h => h.elim)); clear k9; have c5 := HP5.out w4 K.out; skip)
                | (go_at_call 195; (with_reducible refine (C5.out _ K.out).mono ?_); rintro e w5 ⟨rfl, k9⟩; have K := Lib.hid (K.out.trans k9 (fun _ h => h.elim)); clear k9; have c6 := HP6.out w5 K.out; skip))
              go_ret
              exact ⟨rfl, K.out⟩
            | true =>
              simp only [Bool.true_and]
              go_enter Tryz.func104, Tryz.ntmps104
              go_wp2_with (first
                | (go_at_call 183; (with_reducible refine (C1.out _ K.out).mono ?_); rintro e w1 ⟨rfl, k9⟩; have K := Lib.hid (K.out.trans k9 (fun _ h => h.elim)); clear k9; have c2 := HP2.out w1 K.out; skip)
                | (go_at_call 186; (with_reducible refine (C2.out _ K.out).mono ?_); rintro e w2 ⟨rfl, k9⟩; have K := Lib.hid (K.out.trans k9 (fun _ h => h.elim)); clear k9; have c3 := HP3.out w2 K.out; skip)
                | (go_at_call 189; (with_reducible refine (C3.out _ K.out).mono ?_); rintro e w3 ⟨rfl, k9⟩; have K := Lib.hid (K.out.trans k9 (fun _ h => h.elim)); clear k9; have c4 := HP4.out w3 K.out; skip)
                | (go_at_call 192; (with_reducible refine (C4.out _ K.out).mono ?_); rintro e w4 ⟨rfl, k9⟩; have K := Lib.hid (K.out.trans k9 (fun _ h => h.elim)); clear k9; have c5 := HP5.out w4 K.out; skip)
                | (go_at_call 195; (with_reducible refine (C5.out _ K.out).mono ?_); rintro e w5 ⟨rfl, k9⟩; have K := Lib.hid (K.out.trans k9 (fun _ h => h.elim)); clear k9; have c6 := HP6.out w5 K.out; skip)
                | (go_at_call 198; (with_reducible refine (C6.out _ K.out).mono ?_); rintro e w6 ⟨rfl, k9⟩; have K := Lib.hid (K.out.trans k9 (fun _ h => h.elim)); clear k9; skip))
              go_ret
              exact ⟨rfl, K.out⟩
  · have d0 : decide (0 < (m : Int)) = false := by rw [decide_eq_false_iff_not]; omega
    rw [show decide (0 < m) = false by rw [decide_eq_false_iff_not]; exact hm0]
    simp only [Bool.false_and]
    go_enter Tryz.func104, Tryz.ntmps104
    go_wp2
    go_ret
    exact ⟨rfl, K.out⟩
/-- An error of api, as a value (0: none). -/
def errV (n : Int) : Value := if n = 0 then .nilIface else .iface 38 (.int .i64 n)
theorem check_dec (D : DbM) : checkF D = if tablesB D = true then (if closedB D = true then 0 else 6) else 13 := by
  unfold checkF
  by_cases ht : tablesB D = true
  · rw [if_neg ((tables_iff D).1 ht), if_pos ht]
    by_cases hc : closedB D = true
    · rw [if_neg (fun h => h ((closed_iff D).1 hc)), if_pos hc]
    · rw [if_pos (fun h => hc ((closed_iff D).2 h)), if_neg hc]
  · rw [if_pos (Classical.byContradiction fun h => ht ((tables_iff D).2 h)), if_neg ht]
set_option maxHeartbeats 4000000 in
theorem check_any {P : Nat → Prop} {w : World} {d : Nat} {D : DbM} (h : DbAt P w d 0 D) (hz : SzD D) :
    Calls Tryz.prog 55 #[.pointer (some ⟨d, 0, none⟩)] w fun e w' => e = .returned (errV (checkF D)) ∧ Keep (fun _ => False) w w' := by
  have HA := Lib.hid (areTables_any h hz)
  have HC := Lib.hid (fun w9 (k : Keep (fun _ => False) w w9) => isClosed_any (h.keepN k))
  rw [check_dec]
  clear h hz
  cases h1 : tablesB D with
  | false =>
    rw [h1] at HA
    rw [if_neg (by simp)]
    clear h1
    go_enter Tryz.func55, Tryz.ntmps55
    go_wp2_with (go_at_call 104; (with_reducible refine HA.out.mono ?_); rintro e w9 ⟨rfl, k9⟩; have K9 := Lib.hid k9; clear k9)
    go_ret
    exact ⟨rfl, K9.out⟩
  | true =>
    rw [h1] at HA
    rw [if_pos rfl]
    clear h1
    cases h2 : closedB D with
    | false =>
      rw [h2] at HC
      rw [if_neg (by simp)]
      clear h2
      go_enter Tryz.func55, Tryz.ntmps55
      go_wp2_with (first
        | (go_at_call 104; (with_reducible refine HA.out.mono ?_); rintro e w9 ⟨rfl, k9⟩; have K9 := Lib.hid k9; clear k9)
        | (go_at_call 105; (with_reducible refine (HC.out _ K9.out).mono ?_); rintro e w8 ⟨rfl, k8⟩; have K8 := Lib.hid k8; clear k8))
      go_ret
      exact ⟨rfl, K9.out.trans K8.out (fun _ h => h.elim)⟩
    | true =>
      rw [h2] at HC
      rw [if_pos rfl]
      clear h2
      go_enter Tryz.func55, Tryz.ntmps55
      go_wp2_with (first
        | (go_at_call 104; (with_reducible refine HA.out.mono ?_); rintro e w9 ⟨rfl, k9⟩; have K9 := Lib.hid k9; clear k9)
        | (go_at_call 105; (with_reducible refine (HC.out _ K9.out).mono ?_); rintro e w8 ⟨rfl, k8⟩; have K8 := Lib.hid k8; clear k8))
      go_ret
      exact ⟨rfl, K9.out.trans K8.out (fun _ h => h.elim)⟩
end Go.Proofs.YtheaghgockafmaaGreat.Wd
