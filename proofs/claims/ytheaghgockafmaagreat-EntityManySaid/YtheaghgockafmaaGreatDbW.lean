/- World files: the program's all, rises, isTable, find of each kind of record (made by tools/gendw.py). -/
import Derived.Test.YtheaghgockafmaaGreatDbN
import Derived.Test.YtheaghgockafmaaGreatCdW
import Derived.Deep.QuietTactic
import Derived.BigQuiet
import Derived.Shelf.Abstract
namespace Go.Proofs.YtheaghgockafmaaGreat.Wd
open Go.RowKit Go.Maps Go.Proofs.YtheaghgockafmaaGreat Go.Proofs.YtheaghgockafmaaGreat.Lin
set_option maxRecDepth 100000

/-- The front of k records keeps p. -/
structure AlR {α : Type} (p : α → Bool) (L : List α) (w0 : World) (iv : Value) (wr : World) : Prop where
  ex : ∃ k : Nat, k ≤ L.length ∧ iv = .int .i64 (k : Int) ∧ (∀ (j : Nat) (a : α), j < k → L[j]? = some a → p a = true) ∧ Keep (fun _ => False) w0 wr
theorem all_end {α : Type} {p : α → Bool} {L : List α} {k : Nat} (h : ∀ (j : Nat) (a : α), j < k → L[j]? = some a → p a = true) (hk : L.length ≤ k) : L.all p = true := by
  rw [List.all_eq_true]
  intro x hx
  obtain ⟨j, hj, rfl⟩ := List.mem_iff_getElem.1 hx
  exact h j _ (by omega) (List.getElem?_eq_getElem hj)
theorem all_bad {α : Type} {p : α → Bool} {L : List α} {k : Nat} {x : α} (hx : L[k]? = some x) (hp : p x = false) : L.all p = false := by
  rw [List.all_eq_false]
  exact ⟨x, List.mem_of_getElem? hx, by rw [hp]; simp⟩
theorem all_next {α : Type} {p : α → Bool} {L : List α} {k : Nat} {x : α} (h : ∀ (j : Nat) (a : α), j < k → L[j]? = some a → p a = true) (hx : L[k]? = some x) (hp : p x = true) : ∀ (j : Nat) (a : α), j < k + 1 → L[j]? = some a → p a = true := fun j a hj ha => by
  by_cases e : j = k
  · subst e; rw [hx] at ha; cases ha; exact hp
  · exact h j a (by omega) ha
/-- A struct's variable is laid, somewhere new. -/
theorem wpList_var_any {P : Program} {ops : Array Oper} {rest : List Oper} {o o2 : Oper} {a : Act} {w : World} {Q : Exit → Act → World → Prop} {t : TypeId} {Z C : Array Value} (hz : Hid (∀ w : World, (zeroValue t).run P w = .ok (.agg Z) w)) (hi : (P.info? t).map (·.size) = some C.size) (hs : Z.size = C.size) (hC1 : C.all (·.oneCell') = true) (hg : o.guard = none) (ho : o.op = .alloc t) (hg2 : o2.guard = none) (x y : Operand) (ho2 : o2.op = .store t x y)
    (hx : (a.put o.dst (.pointer (some ⟨w.heap.size, 0, none⟩))).eval x = .pointer (some ⟨w.heap.size, 0, none⟩)) (hy : (a.put o.dst (.pointer (some ⟨w.heap.size, 0, none⟩))).eval y = .agg C)
    (h : ∀ W B, W.heap[B]? = some (.cells C t (0, 0)) → Keep (fun _ => False) w W → wpList P ops Q rest ((a.put o.dst (.pointer (some ⟨B, 0, none⟩))).put o2.dst undef) W) : wpList P ops Q (o :: o2 :: rest) a w :=
  Cd.wpList_var_arr hz hi hs hC1 hg ho hg2 x y ho2 hx hy (h _ _ (heap_alloc_new w _) ((Keep.refl _ w).alloc _))
/-- A record in a list that is seen. -/
theorem seen_range {α : Type} {f : α → List Value} {s : Nat} (hs : ∀ a, (f a).length = s) {w wr : World} {L : List α} {g off k : Nat} {x : α} (hK : Keep (fun _ => False) w wr) (hg : g < w.heap.size) (q : ∀ j u, (flat f L)[j]? = some u → w.cell? ⟨g, off + j, none⟩ = some u) (hx : L[k]? = some x) : wr.rangeAt g (off + k * s) (f x) := fun j u hj => by
  have hjs : j < s := by rw [← hs x]; exact (List.getElem?_eq_some_iff.1 hj).1
  rw [hK.cell hg (fun h => h), Nat.add_assoc]
  exact q (k * s + j) u (by rw [flat_get hs L k j x hx hjs]; exact hj)

theorem zWRoom : ∃ Z : Array Value, Hid (∀ w : World, (zeroValue 127).run Tryz.prog w = .ok (.agg Z) w) ∧ Hid (Z.size = 10) :=
  ⟨#[.int .i64 0, .string ⟨#[]⟩, .int .i64 0, .int .i64 0, .int .i64 0, .int .i64 0, .int .i64 0, .int .i64 0, .int .i64 0, .int .i64 0], Lib.hid (fun w => by kernel_rfl), Lib.hid rfl⟩
theorem Tryz.infoWRoom : (Tryz.prog.info? 127).map (·.size) = some 10 := by kernel_rfl

set_option maxHeartbeats 4000000 in
theorem allRoom_any {w : World} {v : Value} {L : List (RoomM)} (h : Seen w 10 v L.length (flat roomC L)) (p : RoomM → Bool) {g : Nat} {lb : Array Value} (eg : ∀ args w, (callFunc g args).run Tryz.prog w = .ok (.enter g args) w)
    (hp : ∀ x ∈ L, ∀ w', Keep (fun _ => False) w w' → Calls Tryz.prog g (#[.agg (roomC x).toArray] ++ lb) w' fun e w'' => e = .returned (.bool (p x)) ∧ Keep (fun _ => False) w' w'') :
    Calls Tryz.prog 201 #[v, .func (.func g) #[] lb] w fun e w' => e = .returned (.bool (L.all p)) ∧ Keep (fun _ => False) w w' := by
  obtain ⟨_, a, cap, rfl, hc1, hc2, hcell⟩ := h
  unfold maxLen at hc2
  have HC := Lib.hid hcell; have HP := Lib.hid hp
  obtain ⟨Z, HZ, HZS⟩ := zWRoom
  have HI9 := Lib.hid Tryz.infoWRoom
  skip
  clear hcell hp 
  go_enter Tryz.func201, Tryz.ntmps201
  go_wp2
  go_loopw [9] (fun iv wr => AlR p L w iv wr) (fun iv _ => L.length - (intOf iv).toNat)
  case atStart => exact ⟨0, by omega, rfl, fun j a hj => by omega, Keep.refl _ _⟩
  case round =>
    obtain ⟨k, hk, rfl, hall, hK⟩ := hrel.ex
    have HA := Lib.hid hall; have HK := Lib.hid hK
    clear hall hK hrel
    by_cases hlt : k < L.length
    · have hd1 : decide (k < L.length) = true := by simpa using hlt
      obtain ⟨x, hx⟩ : ∃ x, L[k]? = some x := ⟨_, List.getElem?_eq_getElem hlt⟩
      obtain ⟨g1, off, rfl, hg, q⟩ := HC.out.resolve_left (by omega)
      have hrg := seen_range roomC_len HK.out hg q hx
      have q0 : wr.cell? ⟨g1, off + k * 10, none⟩ = some (.int .i64 x.id) := hrg 0 _ rfl
      have q1 : wr.cell? ⟨g1, off + k * 10 + 1, none⟩ = some (.string x.name) := hrg 1 _ rfl
      have q2 : wr.cell? ⟨g1, off + k * 10 + 2, none⟩ = some (.int .i64 x.kind) := hrg 2 _ rfl
      have q3 : wr.cell? ⟨g1, off + k * 10 + 3, none⟩ = some (.int .i64 x.price) := hrg 3 _ rfl
      have q4 : wr.cell? ⟨g1, off + k * 10 + 4, none⟩ = some (.int .i64 x.e0) := hrg 4 _ rfl
      have q5 : wr.cell? ⟨g1, off + k * 10 + 5, none⟩ = some (.int .i64 x.e1) := hrg 5 _ rfl
      have q6 : wr.cell? ⟨g1, off + k * 10 + 6, none⟩ = some (.int .i64 x.e2) := hrg 6 _ rfl
      have q7 : wr.cell? ⟨g1, off + k * 10 + 7, none⟩ = some (.int .i64 x.e3) := hrg 7 _ rfl
      have q8 : wr.cell? ⟨g1, off + k * 10 + 8, none⟩ = some (.int .i64 x.e4) := hrg 8 _ rfl
      have q9 : wr.cell? ⟨g1, off + k * 10 + 9, none⟩ = some (.int .i64 x.e5) := hrg 9 _ rfl
      have hm := List.mem_of_getElem? hx
      have HX := Lib.hid hx
      have HCL := Lib.hid (fun w9 (k9 : Keep (fun _ => False) w w9) => HP.out x hm w9 k9)
      clear hrg hx q hm
      cases hpx : p x with
      | true =>
        have HPX := Lib.hid hpx
        rw [hpx] at HCL
        clear hpx
        go_wp2_with (first
          | (refine wpList_var_any (C := (roomC x).toArray) HZ.out HI9.out HZS.out (by simp [roomC, Value.oneCell']) rfl rfl rfl (.tmp 6) (.tmp 12) rfl rfl rfl ?_; intro W1 B1 hb1 hk1; have HB := Lib.hid hb1; have HK1 := Lib.hid (HK.out.trans hk1 (fun _ h => h.elim)); clear hb1 hk1; simp only [Act.put, List.setIfInBounds_toArray, List.set_cons_succ, List.set_cons_zero])
          | (refine Cd.wpList_load_arr (C := (roomC x).toArray) Tryz.underlying127 rfl HI9.out rfl (.tmp 6) rfl B1 rfl HB.out ?_; simp only [Act.put, List.setIfInBounds_toArray, List.set_cons_succ, List.set_cons_zero])
          | (go_at_fn g; (refine (HCL.out _ HK1.out).mono ?_); rintro e w9 ⟨rfl, k9⟩; have K9 := Lib.hid k9; clear k9))
        go_roundw
        case rel => exact ⟨k + 1, by omega, by go_num, all_next HA.out HX.out HPX.out, HK1.out.trans K9.out (fun _ h => h.elim)⟩
        case measure => simp [intOf]; omega
      | false =>
        have HPX := Lib.hid hpx
        rw [hpx] at HCL
        clear hpx
        go_wp2_with (first
          | (refine wpList_var_any (C := (roomC x).toArray) HZ.out HI9.out HZS.out (by simp [roomC, Value.oneCell']) rfl rfl rfl (.tmp 6) (.tmp 12) rfl rfl rfl ?_; intro W1 B1 hb1 hk1; have HB := Lib.hid hb1; have HK1 := Lib.hid (HK.out.trans hk1 (fun _ h => h.elim)); clear hb1 hk1; simp only [Act.put, List.setIfInBounds_toArray, List.set_cons_succ, List.set_cons_zero])
          | (refine Cd.wpList_load_arr (C := (roomC x).toArray) Tryz.underlying127 rfl HI9.out rfl (.tmp 6) rfl B1 rfl HB.out ?_; simp only [Act.put, List.setIfInBounds_toArray, List.set_cons_succ, List.set_cons_zero])
          | (go_at_fn g; (refine (HCL.out _ HK1.out).mono ?_); rintro e w9 ⟨rfl, k9⟩; have K9 := Lib.hid k9; clear k9))
        go_ret
        exact ⟨by rw [all_bad HX.out HPX.out]; rfl, HK1.out.trans K9.out (fun _ h => h.elim)⟩
    · have hd1 : decide (k < L.length) = false := by rw [decide_eq_false_iff_not]; omega
      go_wp2
      go_ret
      exact ⟨by rw [all_end HA.out (by omega)]; rfl, HK.out⟩

theorem zWProto : ∃ Z : Array Value, Hid (∀ w : World, (zeroValue 133).run Tryz.prog w = .ok (.agg Z) w) ∧ Hid (Z.size = 5) :=
  ⟨#[.int .i64 0, .string ⟨#[]⟩, .int .i64 0, .int .i64 0, .int .i64 0], Lib.hid (fun w => by kernel_rfl), Lib.hid rfl⟩
theorem Tryz.infoWProto : (Tryz.prog.info? 133).map (·.size) = some 5 := by kernel_rfl

set_option maxHeartbeats 4000000 in
theorem allProto_any {w : World} {v : Value} {L : List (ProtoM)} (h : Seen w 5 v L.length (flat protoC L)) (p : ProtoM → Bool) {g : Nat} {lb : Array Value} (eg : ∀ args w, (callFunc g args).run Tryz.prog w = .ok (.enter g args) w)
    (hp : ∀ x ∈ L, ∀ w', Keep (fun _ => False) w w' → Calls Tryz.prog g (#[.agg (protoC x).toArray] ++ lb) w' fun e w'' => e = .returned (.bool (p x)) ∧ Keep (fun _ => False) w' w'') :
    Calls Tryz.prog 284 #[v, .func (.func g) #[] lb] w fun e w' => e = .returned (.bool (L.all p)) ∧ Keep (fun _ => False) w w' := by
  obtain ⟨_, a, cap, rfl, hc1, hc2, hcell⟩ := h
  unfold maxLen at hc2
  have HC := Lib.hid hcell; have HP := Lib.hid hp
  obtain ⟨Z, HZ, HZS⟩ := zWProto
  have HI9 := Lib.hid Tryz.infoWProto
  skip
  clear hcell hp 
  go_enter Tryz.func284, Tryz.ntmps284
  go_wp2
  go_loopw [9] (fun iv wr => AlR p L w iv wr) (fun iv _ => L.length - (intOf iv).toNat)
  case atStart => exact ⟨0, by omega, rfl, fun j a hj => by omega, Keep.refl _ _⟩
  case round =>
    obtain ⟨k, hk, rfl, hall, hK⟩ := hrel.ex
    have HA := Lib.hid hall; have HK := Lib.hid hK
    clear hall hK hrel
    by_cases hlt : k < L.length
    · have hd1 : decide (k < L.length) = true := by simpa using hlt
      obtain ⟨x, hx⟩ : ∃ x, L[k]? = some x := ⟨_, List.getElem?_eq_getElem hlt⟩
      obtain ⟨g1, off, rfl, hg, q⟩ := HC.out.resolve_left (by omega)
      have hrg := seen_range protoC_len HK.out hg q hx
      have q0 : wr.cell? ⟨g1, off + k * 5, none⟩ = some (.int .i64 x.id) := hrg 0 _ rfl
      have q1 : wr.cell? ⟨g1, off + k * 5 + 1, none⟩ = some (.string x.name) := hrg 1 _ rfl
      have q2 : wr.cell? ⟨g1, off + k * 5 + 2, none⟩ = some (.int .i64 x.slot) := hrg 2 _ rfl
      have q3 : wr.cell? ⟨g1, off + k * 5 + 3, none⟩ = some (.int .i64 x.power) := hrg 3 _ rfl
      have q4 : wr.cell? ⟨g1, off + k * 5 + 4, none⟩ = some (.int .i64 x.price) := hrg 4 _ rfl
      have hm := List.mem_of_getElem? hx
      have HX := Lib.hid hx
      have HCL := Lib.hid (fun w9 (k9 : Keep (fun _ => False) w w9) => HP.out x hm w9 k9)
      clear hrg hx q hm
      cases hpx : p x with
      | true =>
        have HPX := Lib.hid hpx
        rw [hpx] at HCL
        clear hpx
        go_wp2_with (first
          | (refine wpList_var_any (C := (protoC x).toArray) HZ.out HI9.out HZS.out (by simp [protoC, Value.oneCell']) rfl rfl rfl (.tmp 6) (.tmp 12) rfl rfl rfl ?_; intro W1 B1 hb1 hk1; have HB := Lib.hid hb1; have HK1 := Lib.hid (HK.out.trans hk1 (fun _ h => h.elim)); clear hb1 hk1; simp only [Act.put, List.setIfInBounds_toArray, List.set_cons_succ, List.set_cons_zero])
          | (refine Cd.wpList_load_arr (C := (protoC x).toArray) Tryz.underlying133 rfl HI9.out rfl (.tmp 6) rfl B1 rfl HB.out ?_; simp only [Act.put, List.setIfInBounds_toArray, List.set_cons_succ, List.set_cons_zero])
          | (go_at_fn g; (refine (HCL.out _ HK1.out).mono ?_); rintro e w9 ⟨rfl, k9⟩; have K9 := Lib.hid k9; clear k9))
        go_roundw
        case rel => exact ⟨k + 1, by omega, by go_num, all_next HA.out HX.out HPX.out, HK1.out.trans K9.out (fun _ h => h.elim)⟩
        case measure => simp [intOf]; omega
      | false =>
        have HPX := Lib.hid hpx
        rw [hpx] at HCL
        clear hpx
        go_wp2_with (first
          | (refine wpList_var_any (C := (protoC x).toArray) HZ.out HI9.out HZS.out (by simp [protoC, Value.oneCell']) rfl rfl rfl (.tmp 6) (.tmp 12) rfl rfl rfl ?_; intro W1 B1 hb1 hk1; have HB := Lib.hid hb1; have HK1 := Lib.hid (HK.out.trans hk1 (fun _ h => h.elim)); clear hb1 hk1; simp only [Act.put, List.setIfInBounds_toArray, List.set_cons_succ, List.set_cons_zero])
          | (refine Cd.wpList_load_arr (C := (protoC x).toArray) Tryz.underlying133 rfl HI9.out rfl (.tmp 6) rfl B1 rfl HB.out ?_; simp only [Act.put, List.setIfInBounds_toArray, List.set_cons_succ, List.set_cons_zero])
          | (go_at_fn g; (refine (HCL.out _ HK1.out).mono ?_); rintro e w9 ⟨rfl, k9⟩; have K9 := Lib.hid k9; clear k9))
        go_ret
        exact ⟨by rw [all_bad HX.out HPX.out]; rfl, HK1.out.trans K9.out (fun _ h => h.elim)⟩
    · have hd1 : decide (k < L.length) = false := by rw [decide_eq_false_iff_not]; omega
      go_wp2
      go_ret
      exact ⟨by rw [all_end HA.out (by omega)]; rfl, HK.out⟩

theorem zWMob : ∃ Z : Array Value, Hid (∀ w : World, (zeroValue 105).run Tryz.prog w = .ok (.agg Z) w) ∧ Hid (Z.size = 7) :=
  ⟨#[.int .i64 0, .string ⟨#[]⟩, .int .i64 0, .int .i64 0, .int .i64 0, .int .i64 0, .int .i64 0], Lib.hid (fun w => by kernel_rfl), Lib.hid rfl⟩
theorem Tryz.infoWMob : (Tryz.prog.info? 105).map (·.size) = some 7 := by kernel_rfl

set_option maxHeartbeats 4000000 in
theorem allMob_any {w : World} {v : Value} {L : List (MobPM)} (h : Seen w 7 v L.length (flat mobpC L)) (p : MobPM → Bool) {g : Nat} {lb : Array Value} (eg : ∀ args w, (callFunc g args).run Tryz.prog w = .ok (.enter g args) w)
    (hp : ∀ x ∈ L, ∀ w', Keep (fun _ => False) w w' → Calls Tryz.prog g (#[.agg (mobpC x).toArray] ++ lb) w' fun e w'' => e = .returned (.bool (p x)) ∧ Keep (fun _ => False) w' w'') :
    Calls Tryz.prog 204 #[v, .func (.func g) #[] lb] w fun e w' => e = .returned (.bool (L.all p)) ∧ Keep (fun _ => False) w w' := by
  obtain ⟨_, a, cap, rfl, hc1, hc2, hcell⟩ := h
  unfold maxLen at hc2
  have HC := Lib.hid hcell; have HP := Lib.hid hp
  obtain ⟨Z, HZ, HZS⟩ := zWMob
  have HI9 := Lib.hid Tryz.infoWMob
  skip
  clear hcell hp 
  go_enter Tryz.func204, Tryz.ntmps204
  go_wp2
  go_loopw [9] (fun iv wr => AlR p L w iv wr) (fun iv _ => L.length - (intOf iv).toNat)
  case atStart => exact ⟨0, by omega, rfl, fun j a hj => by omega, Keep.refl _ _⟩
  case round =>
    obtain ⟨k, hk, rfl, hall, hK⟩ := hrel.ex
    have HA := Lib.hid hall; have HK := Lib.hid hK
    clear hall hK hrel
    by_cases hlt : k < L.length
    · have hd1 : decide (k < L.length) = true := by simpa using hlt
      obtain ⟨x, hx⟩ : ∃ x, L[k]? = some x := ⟨_, List.getElem?_eq_getElem hlt⟩
      obtain ⟨g1, off, rfl, hg, q⟩ := HC.out.resolve_left (by omega)
      have hrg := seen_range mobpC_len HK.out hg q hx
      have q0 : wr.cell? ⟨g1, off + k * 7, none⟩ = some (.int .i64 x.id) := hrg 0 _ rfl
      have q1 : wr.cell? ⟨g1, off + k * 7 + 1, none⟩ = some (.string x.name) := hrg 1 _ rfl
      have q2 : wr.cell? ⟨g1, off + k * 7 + 2, none⟩ = some (.int .i64 x.home) := hrg 2 _ rfl
      have q3 : wr.cell? ⟨g1, off + k * 7 + 3, none⟩ = some (.int .i64 x.hp) := hrg 3 _ rfl
      have q4 : wr.cell? ⟨g1, off + k * 7 + 4, none⟩ = some (.int .i64 x.power) := hrg 4 _ rfl
      have q5 : wr.cell? ⟨g1, off + k * 7 + 5, none⟩ = some (.int .i64 x.xp) := hrg 5 _ rfl
      have q6 : wr.cell? ⟨g1, off + k * 7 + 6, none⟩ = some (.int .i64 x.gold) := hrg 6 _ rfl
      have hm := List.mem_of_getElem? hx
      have HX := Lib.hid hx
      have HCL := Lib.hid (fun w9 (k9 : Keep (fun _ => False) w w9) => HP.out x hm w9 k9)
      clear hrg hx q hm
      cases hpx : p x with
      | true =>
        have HPX := Lib.hid hpx
        rw [hpx] at HCL
        clear hpx
        go_wp2_with (first
          | (refine wpList_var_any (C := (mobpC x).toArray) HZ.out HI9.out HZS.out (by simp [mobpC, Value.oneCell']) rfl rfl rfl (.tmp 6) (.tmp 12) rfl rfl rfl ?_; intro W1 B1 hb1 hk1; have HB := Lib.hid hb1; have HK1 := Lib.hid (HK.out.trans hk1 (fun _ h => h.elim)); clear hb1 hk1; simp only [Act.put, List.setIfInBounds_toArray, List.set_cons_succ, List.set_cons_zero])
          | (refine Cd.wpList_load_arr (C := (mobpC x).toArray) Tryz.underlying105 rfl HI9.out rfl (.tmp 6) rfl B1 rfl HB.out ?_; simp only [Act.put, List.setIfInBounds_toArray, List.set_cons_succ, List.set_cons_zero])
          | (go_at_fn g; (refine (HCL.out _ HK1.out).mono ?_); rintro e w9 ⟨rfl, k9⟩; have K9 := Lib.hid k9; clear k9))
        go_roundw
        case rel => exact ⟨k + 1, by omega, by go_num, all_next HA.out HX.out HPX.out, HK1.out.trans K9.out (fun _ h => h.elim)⟩
        case measure => simp [intOf]; omega
      | false =>
        have HPX := Lib.hid hpx
        rw [hpx] at HCL
        clear hpx
        go_wp2_with (first
          | (refine wpList_var_any (C := (mobpC x).toArray) HZ.out HI9.out HZS.out (by simp [mobpC, Value.oneCell']) rfl rfl rfl (.tmp 6) (.tmp 12) rfl rfl rfl ?_; intro W1 B1 hb1 hk1; have HB := Lib.hid hb1; have HK1 := Lib.hid (HK.out.trans hk1 (fun _ h => h.elim)); clear hb1 hk1; simp only [Act.put, List.setIfInBounds_toArray, List.set_cons_succ, List.set_cons_zero])
          | (refine Cd.wpList_load_arr (C := (mobpC x).toArray) Tryz.underlying105 rfl HI9.out rfl (.tmp 6) rfl B1 rfl HB.out ?_; simp only [Act.put, List.setIfInBounds_toArray, List.set_cons_succ, List.set_cons_zero])
          | (go_at_fn g; (refine (HCL.out _ HK1.out).mono ?_); rintro e w9 ⟨rfl, k9⟩; have K9 := Lib.hid k9; clear k9))
        go_ret
        exact ⟨by rw [all_bad HX.out HPX.out]; rfl, HK1.out.trans K9.out (fun _ h => h.elim)⟩
    · have hd1 : decide (k < L.length) = false := by rw [decide_eq_false_iff_not]; omega
      go_wp2
      go_ret
      exact ⟨by rw [all_end HA.out (by omega)]; rfl, HK.out⟩

theorem zWRec : ∃ Z : Array Value, Hid (∀ w : World, (zeroValue 135).run Tryz.prog w = .ok (.agg Z) w) ∧ Hid (Z.size = 2) :=
  ⟨#[.int .i64 0, .slice none 0 0], Lib.hid (fun w => by kernel_rfl), Lib.hid rfl⟩
theorem Tryz.infoWRec : (Tryz.prog.info? 135).map (·.size) = some 2 := by kernel_rfl

set_option maxHeartbeats 4000000 in
theorem allRec_any {w : World} {v : Value} {L : List (RecM × Value)} (h : Seen w 2 v L.length (flat recC L)) (hI : ∀ x ∈ L, ∃ xa xc, x.2 = .slice xa x.1.needs.length xc) (p : RecM × Value → Bool) {g : Nat} {lb : Array Value} (eg : ∀ args w, (callFunc g args).run Tryz.prog w = .ok (.enter g args) w)
    (hp : ∀ x xa xc, (x, .slice xa x.needs.length xc) ∈ L → ∀ w', Keep (fun _ => False) w w' → Calls Tryz.prog g (#[.agg (recC (x, .slice xa x.needs.length xc)).toArray] ++ lb) w' fun e w'' => e = .returned (.bool (p (x, .slice xa x.needs.length xc))) ∧ Keep (fun _ => False) w' w'') :
    Calls Tryz.prog 207 #[v, .func (.func g) #[] lb] w fun e w' => e = .returned (.bool (L.all p)) ∧ Keep (fun _ => False) w w' := by
  obtain ⟨_, a, cap, rfl, hc1, hc2, hcell⟩ := h
  unfold maxLen at hc2
  have HC := Lib.hid hcell; have HP := Lib.hid hp
  obtain ⟨Z, HZ, HZS⟩ := zWRec
  have HI9 := Lib.hid Tryz.infoWRec
  have HI := Lib.hid hI
  clear hcell hp hI
  go_enter Tryz.func207, Tryz.ntmps207
  go_wp2
  go_loopw [9] (fun iv wr => AlR p L w iv wr) (fun iv _ => L.length - (intOf iv).toNat)
  case atStart => exact ⟨0, by omega, rfl, fun j a hj => by omega, Keep.refl _ _⟩
  case round =>
    obtain ⟨k, hk, rfl, hall, hK⟩ := hrel.ex
    have HA := Lib.hid hall; have HK := Lib.hid hK
    clear hall hK hrel
    by_cases hlt : k < L.length
    · have hd1 : decide (k < L.length) = true := by simpa using hlt
      obtain ⟨⟨x, xv⟩, hx⟩ : ∃ x, L[k]? = some x := ⟨_, List.getElem?_eq_getElem hlt⟩
      obtain ⟨xa, xc, hxv⟩ : ∃ xa xc, xv = .slice xa x.needs.length xc := HI.out _ (List.mem_of_getElem? hx)
      subst hxv
      obtain ⟨g1, off, rfl, hg, q⟩ := HC.out.resolve_left (by omega)
      have hrg := seen_range recC_len HK.out hg q hx
      have q0 : wr.cell? ⟨g1, off + k * 2, none⟩ = some (.int .i64 x.out) := hrg 0 _ rfl
      have q1 : wr.cell? ⟨g1, off + k * 2 + 1, none⟩ = some (.slice xa x.needs.length xc) := hrg 1 _ rfl
      have hm := List.mem_of_getElem? hx
      have HX := Lib.hid hx
      have HCL := Lib.hid (fun w9 (k9 : Keep (fun _ => False) w w9) => HP.out x xa xc hm w9 k9)
      clear hrg hx q hm
      cases hpx : p (x, .slice xa x.needs.length xc) with
      | true =>
        have HPX := Lib.hid hpx
        rw [hpx] at HCL
        clear hpx
        go_wp2_with (first
          | (refine wpList_var_any (C := (recC (x, .slice xa x.needs.length xc)).toArray) HZ.out HI9.out HZS.out (by simp [recC, Value.oneCell']) rfl rfl rfl (.tmp 6) (.tmp 12) rfl rfl rfl ?_; intro W1 B1 hb1 hk1; have HB := Lib.hid hb1; have HK1 := Lib.hid (HK.out.trans hk1 (fun _ h => h.elim)); clear hb1 hk1; simp only [Act.put, List.setIfInBounds_toArray, List.set_cons_succ, List.set_cons_zero])
          | (refine Cd.wpList_load_arr (C := (recC (x, .slice xa x.needs.length xc)).toArray) Tryz.underlying135 rfl HI9.out rfl (.tmp 6) rfl B1 rfl HB.out ?_; simp only [Act.put, List.setIfInBounds_toArray, List.set_cons_succ, List.set_cons_zero])
          | (go_at_fn g; (refine (HCL.out _ HK1.out).mono ?_); rintro e w9 ⟨rfl, k9⟩; have K9 := Lib.hid k9; clear k9))
        go_roundw
        case rel => exact ⟨k + 1, by omega, by go_num, all_next HA.out HX.out HPX.out, HK1.out.trans K9.out (fun _ h => h.elim)⟩
        case measure => simp [intOf]; omega
      | false =>
        have HPX := Lib.hid hpx
        rw [hpx] at HCL
        clear hpx
        go_wp2_with (first
          | (refine wpList_var_any (C := (recC (x, .slice xa x.needs.length xc)).toArray) HZ.out HI9.out HZS.out (by simp [recC, Value.oneCell']) rfl rfl rfl (.tmp 6) (.tmp 12) rfl rfl rfl ?_; intro W1 B1 hb1 hk1; have HB := Lib.hid hb1; have HK1 := Lib.hid (HK.out.trans hk1 (fun _ h => h.elim)); clear hb1 hk1; simp only [Act.put, List.setIfInBounds_toArray, List.set_cons_succ, List.set_cons_zero])
          | (refine Cd.wpList_load_arr (C := (recC (x, .slice xa x.needs.length xc)).toArray) Tryz.underlying135 rfl HI9.out rfl (.tmp 6) rfl B1 rfl HB.out ?_; simp only [Act.put, List.setIfInBounds_toArray, List.set_cons_succ, List.set_cons_zero])
          | (go_at_fn g; (refine (HCL.out _ HK1.out).mono ?_); rintro e w9 ⟨rfl, k9⟩; have K9 := Lib.hid k9; clear k9))
        go_ret
        exact ⟨by rw [all_bad HX.out HPX.out]; rfl, HK1.out.trans K9.out (fun _ h => h.elim)⟩
    · have hd1 : decide (k < L.length) = false := by rw [decide_eq_false_iff_not]; omega
      go_wp2
      go_ret
      exact ⟨by rw [all_end HA.out (by omega)]; rfl, HK.out⟩

theorem zWQuest : ∃ Z : Array Value, Hid (∀ w : World, (zeroValue 137).run Tryz.prog w = .ok (.agg Z) w) ∧ Hid (Z.size = 5) :=
  ⟨#[.int .i64 0, .int .i64 0, .int .i64 0, .int .i64 0, .int .i64 0], Lib.hid (fun w => by kernel_rfl), Lib.hid rfl⟩
theorem Tryz.infoWQuest : (Tryz.prog.info? 137).map (·.size) = some 5 := by kernel_rfl

set_option maxHeartbeats 4000000 in
theorem allQuest_any {w : World} {v : Value} {L : List (QuestM)} (h : Seen w 5 v L.length (flat questC L)) (p : QuestM → Bool) {g : Nat} {lb : Array Value} (eg : ∀ args w, (callFunc g args).run Tryz.prog w = .ok (.enter g args) w)
    (hp : ∀ x ∈ L, ∀ w', Keep (fun _ => False) w w' → Calls Tryz.prog g (#[.agg (questC x).toArray] ++ lb) w' fun e w'' => e = .returned (.bool (p x)) ∧ Keep (fun _ => False) w' w'') :
    Calls Tryz.prog 211 #[v, .func (.func g) #[] lb] w fun e w' => e = .returned (.bool (L.all p)) ∧ Keep (fun _ => False) w w' := by
  obtain ⟨_, a, cap, rfl, hc1, hc2, hcell⟩ := h
  unfold maxLen at hc2
  have HC := Lib.hid hcell; have HP := Lib.hid hp
  obtain ⟨Z, HZ, HZS⟩ := zWQuest
  have HI9 := Lib.hid Tryz.infoWQuest
  skip
  clear hcell hp 
  go_enter Tryz.func211, Tryz.ntmps211
  go_wp2
  go_loopw [9] (fun iv wr => AlR p L w iv wr) (fun iv _ => L.length - (intOf iv).toNat)
  case atStart => exact ⟨0, by omega, rfl, fun j a hj => by omega, Keep.refl _ _⟩
  case round =>
    obtain ⟨k, hk, rfl, hall, hK⟩ := hrel.ex
    have HA := Lib.hid hall; have HK := Lib.hid hK
    clear hall hK hrel
    by_cases hlt : k < L.length
    · have hd1 : decide (k < L.length) = true := by simpa using hlt
      obtain ⟨x, hx⟩ : ∃ x, L[k]? = some x := ⟨_, List.getElem?_eq_getElem hlt⟩
      obtain ⟨g1, off, rfl, hg, q⟩ := HC.out.resolve_left (by omega)
      have hrg := seen_range questC_len HK.out hg q hx
      have q0 : wr.cell? ⟨g1, off + k * 5, none⟩ = some (.int .i64 x.id) := hrg 0 _ rfl
      have q1 : wr.cell? ⟨g1, off + k * 5 + 1, none⟩ = some (.int .i64 x.item) := hrg 1 _ rfl
      have q2 : wr.cell? ⟨g1, off + k * 5 + 2, none⟩ = some (.int .i64 x.count) := hrg 2 _ rfl
      have q3 : wr.cell? ⟨g1, off + k * 5 + 3, none⟩ = some (.int .i64 x.gold) := hrg 3 _ rfl
      have q4 : wr.cell? ⟨g1, off + k * 5 + 4, none⟩ = some (.int .i64 x.reward) := hrg 4 _ rfl
      have hm := List.mem_of_getElem? hx
      have HX := Lib.hid hx
      have HCL := Lib.hid (fun w9 (k9 : Keep (fun _ => False) w w9) => HP.out x hm w9 k9)
      clear hrg hx q hm
      cases hpx : p x with
      | true =>
        have HPX := Lib.hid hpx
        rw [hpx] at HCL
        clear hpx
        go_wp2_with (first
          | (refine wpList_var_any (C := (questC x).toArray) HZ.out HI9.out HZS.out (by simp [questC, Value.oneCell']) rfl rfl rfl (.tmp 6) (.tmp 12) rfl rfl rfl ?_; intro W1 B1 hb1 hk1; have HB := Lib.hid hb1; have HK1 := Lib.hid (HK.out.trans hk1 (fun _ h => h.elim)); clear hb1 hk1; simp only [Act.put, List.setIfInBounds_toArray, List.set_cons_succ, List.set_cons_zero])
          | (refine Cd.wpList_load_arr (C := (questC x).toArray) Tryz.underlying137 rfl HI9.out rfl (.tmp 6) rfl B1 rfl HB.out ?_; simp only [Act.put, List.setIfInBounds_toArray, List.set_cons_succ, List.set_cons_zero])
          | (go_at_fn g; (refine (HCL.out _ HK1.out).mono ?_); rintro e w9 ⟨rfl, k9⟩; have K9 := Lib.hid k9; clear k9))
        go_roundw
        case rel => exact ⟨k + 1, by omega, by go_num, all_next HA.out HX.out HPX.out, HK1.out.trans K9.out (fun _ h => h.elim)⟩
        case measure => simp [intOf]; omega
      | false =>
        have HPX := Lib.hid hpx
        rw [hpx] at HCL
        clear hpx
        go_wp2_with (first
          | (refine wpList_var_any (C := (questC x).toArray) HZ.out HI9.out HZS.out (by simp [questC, Value.oneCell']) rfl rfl rfl (.tmp 6) (.tmp 12) rfl rfl rfl ?_; intro W1 B1 hb1 hk1; have HB := Lib.hid hb1; have HK1 := Lib.hid (HK.out.trans hk1 (fun _ h => h.elim)); clear hb1 hk1; simp only [Act.put, List.setIfInBounds_toArray, List.set_cons_succ, List.set_cons_zero])
          | (refine Cd.wpList_load_arr (C := (questC x).toArray) Tryz.underlying137 rfl HI9.out rfl (.tmp 6) rfl B1 rfl HB.out ?_; simp only [Act.put, List.setIfInBounds_toArray, List.set_cons_succ, List.set_cons_zero])
          | (go_at_fn g; (refine (HCL.out _ HK1.out).mono ?_); rintro e w9 ⟨rfl, k9⟩; have K9 := Lib.hid k9; clear k9))
        go_ret
        exact ⟨by rw [all_bad HX.out HPX.out]; rfl, HK1.out.trans K9.out (fun _ h => h.elim)⟩
    · have hd1 : decide (k < L.length) = false := by rw [decide_eq_false_iff_not]; omega
      go_wp2
      go_ret
      exact ⟨by rw [all_end HA.out (by omega)]; rfl, HK.out⟩

theorem zWShop : ∃ Z : Array Value, Hid (∀ w : World, (zeroValue 107).run Tryz.prog w = .ok (.agg Z) w) ∧ Hid (Z.size = 3) :=
  ⟨#[.int .i64 0, .int .i64 0, .slice none 0 0], Lib.hid (fun w => by kernel_rfl), Lib.hid rfl⟩
theorem Tryz.infoWShop : (Tryz.prog.info? 107).map (·.size) = some 3 := by kernel_rfl

set_option maxHeartbeats 4000000 in
theorem allShop_any {w : World} {v : Value} {L : List (ShopM × Value)} (h : Seen w 3 v L.length (flat shopC L)) (hI : ∀ x ∈ L, ∃ xa xc, x.2 = .slice xa x.1.items.length xc) (p : ShopM × Value → Bool) {g : Nat} {lb : Array Value} (eg : ∀ args w, (callFunc g args).run Tryz.prog w = .ok (.enter g args) w)
    (hp : ∀ x xa xc, (x, .slice xa x.items.length xc) ∈ L → ∀ w', Keep (fun _ => False) w w' → Calls Tryz.prog g (#[.agg (shopC (x, .slice xa x.items.length xc)).toArray] ++ lb) w' fun e w'' => e = .returned (.bool (p (x, .slice xa x.items.length xc))) ∧ Keep (fun _ => False) w' w'') :
    Calls Tryz.prog 214 #[v, .func (.func g) #[] lb] w fun e w' => e = .returned (.bool (L.all p)) ∧ Keep (fun _ => False) w w' := by
  obtain ⟨_, a, cap, rfl, hc1, hc2, hcell⟩ := h
  unfold maxLen at hc2
  have HC := Lib.hid hcell; have HP := Lib.hid hp
  obtain ⟨Z, HZ, HZS⟩ := zWShop
  have HI9 := Lib.hid Tryz.infoWShop
  have HI := Lib.hid hI
  clear hcell hp hI
  go_enter Tryz.func214, Tryz.ntmps214
  go_wp2
  go_loopw [9] (fun iv wr => AlR p L w iv wr) (fun iv _ => L.length - (intOf iv).toNat)
  case atStart => exact ⟨0, by omega, rfl, fun j a hj => by omega, Keep.refl _ _⟩
  case round =>
    obtain ⟨k, hk, rfl, hall, hK⟩ := hrel.ex
    have HA := Lib.hid hall; have HK := Lib.hid hK
    clear hall hK hrel
    by_cases hlt : k < L.length
    · have hd1 : decide (k < L.length) = true := by simpa using hlt
      obtain ⟨⟨x, xv⟩, hx⟩ : ∃ x, L[k]? = some x := ⟨_, List.getElem?_eq_getElem hlt⟩
      obtain ⟨xa, xc, hxv⟩ : ∃ xa xc, xv = .slice xa x.items.length xc := HI.out _ (List.mem_of_getElem? hx)
      subst hxv
      obtain ⟨g1, off, rfl, hg, q⟩ := HC.out.resolve_left (by omega)
      have hrg := seen_range shopC_len HK.out hg q hx
      have q0 : wr.cell? ⟨g1, off + k * 3, none⟩ = some (.int .i64 x.room) := hrg 0 _ rfl
      have q1 : wr.cell? ⟨g1, off + k * 3 + 1, none⟩ = some (.int .i64 x.till) := hrg 1 _ rfl
      have q2 : wr.cell? ⟨g1, off + k * 3 + 2, none⟩ = some (.slice xa x.items.length xc) := hrg 2 _ rfl
      have hm := List.mem_of_getElem? hx
      have HX := Lib.hid hx
      have HCL := Lib.hid (fun w9 (k9 : Keep (fun _ => False) w w9) => HP.out x xa xc hm w9 k9)
      clear hrg hx q hm
      cases hpx : p (x, .slice xa x.items.length xc) with
      | true =>
        have HPX := Lib.hid hpx
        rw [hpx] at HCL
        clear hpx
        go_wp2_with (first
          | (refine wpList_var_any (C := (shopC (x, .slice xa x.items.length xc)).toArray) HZ.out HI9.out HZS.out (by simp [shopC, Value.oneCell']) rfl rfl rfl (.tmp 6) (.tmp 12) rfl rfl rfl ?_; intro W1 B1 hb1 hk1; have HB := Lib.hid hb1; have HK1 := Lib.hid (HK.out.trans hk1 (fun _ h => h.elim)); clear hb1 hk1; simp only [Act.put, List.setIfInBounds_toArray, List.set_cons_succ, List.set_cons_zero])
          | (refine Cd.wpList_load_arr (C := (shopC (x, .slice xa x.items.length xc)).toArray) Tryz.underlying107 rfl HI9.out rfl (.tmp 6) rfl B1 rfl HB.out ?_; simp only [Act.put, List.setIfInBounds_toArray, List.set_cons_succ, List.set_cons_zero])
          | (go_at_fn g; (refine (HCL.out _ HK1.out).mono ?_); rintro e w9 ⟨rfl, k9⟩; have K9 := Lib.hid k9; clear k9))
        go_roundw
        case rel => exact ⟨k + 1, by omega, by go_num, all_next HA.out HX.out HPX.out, HK1.out.trans K9.out (fun _ h => h.elim)⟩
        case measure => simp [intOf]; omega
      | false =>
        have HPX := Lib.hid hpx
        rw [hpx] at HCL
        clear hpx
        go_wp2_with (first
          | (refine wpList_var_any (C := (shopC (x, .slice xa x.items.length xc)).toArray) HZ.out HI9.out HZS.out (by simp [shopC, Value.oneCell']) rfl rfl rfl (.tmp 6) (.tmp 12) rfl rfl rfl ?_; intro W1 B1 hb1 hk1; have HB := Lib.hid hb1; have HK1 := Lib.hid (HK.out.trans hk1 (fun _ h => h.elim)); clear hb1 hk1; simp only [Act.put, List.setIfInBounds_toArray, List.set_cons_succ, List.set_cons_zero])
          | (refine Cd.wpList_load_arr (C := (shopC (x, .slice xa x.items.length xc)).toArray) Tryz.underlying107 rfl HI9.out rfl (.tmp 6) rfl B1 rfl HB.out ?_; simp only [Act.put, List.setIfInBounds_toArray, List.set_cons_succ, List.set_cons_zero])
          | (go_at_fn g; (refine (HCL.out _ HK1.out).mono ?_); rintro e w9 ⟨rfl, k9⟩; have K9 := Lib.hid k9; clear k9))
        go_ret
        exact ⟨by rw [all_bad HX.out HPX.out]; rfl, HK1.out.trans K9.out (fun _ h => h.elim)⟩
    · have hd1 : decide (k < L.length) = false := by rw [decide_eq_false_iff_not]; omega
      go_wp2
      go_ret
      exact ⟨by rw [all_end HA.out (by omega)]; rfl, HK.out⟩
end Go.Proofs.YtheaghgockafmaaGreat.Wd
