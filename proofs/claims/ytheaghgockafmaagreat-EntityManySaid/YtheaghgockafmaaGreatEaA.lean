/- The program's entity: all, rises, over lists that are empty and over mobiles, rooms and numbers (made by tools/genea.py). -/
import Derived.Test.YtheaghgockafmaaGreatDcI
import Derived.Test.YtheaghgockafmaaGreatWdT
namespace Go.Proofs.YtheaghgockafmaaGreat.Wd
open Go.RowKit Go.Maps Go.Proofs.YtheaghgockafmaaGreat Go.Proofs.YtheaghgockafmaaGreat.Lin Go.Sort
set_option maxRecDepth 100000

theorem findI_any {α : Type} (p : α → Bool) (L : List α) : decide (0 ≤ findI p L) = L.any p := by
  rcases findI_cases p L with ⟨h1, h2⟩ | ⟨k, a, h1, h2, h3, _⟩
  · rw [h1]
    symm
    rw [show decide ((0:Int) ≤ -1) = false by decide, List.any_eq_false]
    intro x hx
    obtain ⟨j, hj, rfl⟩ := List.mem_iff_getElem.1 hx
    rw [h2 j _ (List.getElem?_eq_getElem hj)]; simp
  · rw [h1]
    symm
    rw [show decide ((0:Int) ≤ (k:Int)) = true by rw [decide_eq_true_eq]; omega, List.any_eq_true]
    exact ⟨a, List.mem_of_getElem? h2, h3⟩
theorem any_not_all {α : Type} (p : α → Bool) (L : List α) : (!(L.any (fun x => !(p x)))) = L.all p := by
  induction L with
  | nil => rfl
  | cons a L ih => rw [List.any_cons, List.all_cons, ← ih]; cases p a <;> simp

theorem idxNilChar_any {w : World} {a : Option Addr} {c g : Nat} {lb : Array Value} : Calls Tryz.prog 80 #[.slice a 0 c, .func (.func g) #[] lb] w fun e w' => e = .returned (.int .i64 (-1)) ∧ Keep (fun _ => False) w w' := by
  go_enter Tryz.func80, Tryz.ntmps80
  go_wp2
  go_loopw [5, 8] (fun _ iv wr => iv = .int .i64 0 ∧ Keep (fun _ => False) w wr) (fun _ iv _ => 0)
  case atStart => exact ⟨rfl, Keep.refl _ _⟩
  case round =>
    obtain ⟨rfl, hK⟩ := hrel
    go_wp2
    go_ret
    exact ⟨rfl, hK⟩
theorem conNilChar_any {w : World} {a : Option Addr} {c g : Nat} {lb : Array Value} : Calls Tryz.prog 128 #[.slice a 0 c, .func (.func g) #[] lb] w fun e w' => e = .returned (.bool false) ∧ Keep (fun _ => False) w w' := by
  go_enter Tryz.func128, Tryz.ntmps128
  go_wp2_with (go_at_call 80; (with_reducible refine idxNilChar_any.mono ?_); rintro e w9 ⟨rfl, k9⟩; have K9 := Lib.hid k9; clear k9)
  go_ret
  exact ⟨rfl, K9.out⟩
theorem allNilChar_any {w : World} {a : Option Addr} {c g : Nat} {lb : Array Value} : Calls Tryz.prog 60 #[.slice a 0 c, .func (.func g) #[] lb] w fun e w' => e = .returned (.bool true) ∧ Keep (fun _ => False) w w' := by
  go_enter Tryz.func60, Tryz.ntmps60
  go_wp2_with (go_at_call 128; (with_reducible refine conNilChar_any.mono ?_); rintro e w9 ⟨rfl, k9⟩; have K9 := Lib.hid k9; clear k9)
  go_ret
  exact ⟨rfl, Keep.trans (Keep.alloc (Keep.refl _ w) _) K9.out (fun _ h => h.elim)⟩
theorem risNilChar_any {w : World} {a : Option Addr} {c g : Nat} {lb : Array Value} : Calls Tryz.prog 109 #[.slice a 0 c, .func (.func g) #[] lb] w fun e w' => e = .returned (.bool true) ∧ Keep (fun _ => False) w w' := by
  go_enter Tryz.func109, Tryz.ntmps109
  go_wp2
  go_loopw [5] (fun iv wr => iv = .int .i64 1 ∧ Keep (fun _ => False) w wr) (fun iv _ => 0)
  case atStart => exact ⟨rfl, Keep.refl _ _⟩
  case round =>
    obtain ⟨rfl, hK⟩ := hrel
    go_wp2
    go_ret
    exact ⟨rfl, hK⟩

theorem idxNilThing_any {w : World} {a : Option Addr} {c g : Nat} {lb : Array Value} : Calls Tryz.prog 42 #[.slice a 0 c, .func (.func g) #[] lb] w fun e w' => e = .returned (.int .i64 (-1)) ∧ Keep (fun _ => False) w w' := by
  go_enter Tryz.func42, Tryz.ntmps42
  go_wp2
  go_loopw [5, 8] (fun _ iv wr => iv = .int .i64 0 ∧ Keep (fun _ => False) w wr) (fun _ iv _ => 0)
  case atStart => exact ⟨rfl, Keep.refl _ _⟩
  case round =>
    obtain ⟨rfl, hK⟩ := hrel
    go_wp2
    go_ret
    exact ⟨rfl, hK⟩
theorem conNilThing_any {w : World} {a : Option Addr} {c g : Nat} {lb : Array Value} : Calls Tryz.prog 142 #[.slice a 0 c, .func (.func g) #[] lb] w fun e w' => e = .returned (.bool false) ∧ Keep (fun _ => False) w w' := by
  go_enter Tryz.func142, Tryz.ntmps142
  go_wp2_with (go_at_call 42; (with_reducible refine idxNilThing_any.mono ?_); rintro e w9 ⟨rfl, k9⟩; have K9 := Lib.hid k9; clear k9)
  go_ret
  exact ⟨rfl, K9.out⟩
theorem allNilThing_any {w : World} {a : Option Addr} {c g : Nat} {lb : Array Value} : Calls Tryz.prog 63 #[.slice a 0 c, .func (.func g) #[] lb] w fun e w' => e = .returned (.bool true) ∧ Keep (fun _ => False) w w' := by
  go_enter Tryz.func63, Tryz.ntmps63
  go_wp2_with (go_at_call 142; (with_reducible refine conNilThing_any.mono ?_); rintro e w9 ⟨rfl, k9⟩; have K9 := Lib.hid k9; clear k9)
  go_ret
  exact ⟨rfl, Keep.trans (Keep.alloc (Keep.refl _ w) _) K9.out (fun _ h => h.elim)⟩
theorem risNilThing_any {w : World} {a : Option Addr} {c g : Nat} {lb : Array Value} : Calls Tryz.prog 111 #[.slice a 0 c, .func (.func g) #[] lb] w fun e w' => e = .returned (.bool true) ∧ Keep (fun _ => False) w w' := by
  go_enter Tryz.func111, Tryz.ntmps111
  go_wp2
  go_loopw [5] (fun iv wr => iv = .int .i64 1 ∧ Keep (fun _ => False) w wr) (fun iv _ => 0)
  case atStart => exact ⟨rfl, Keep.refl _ _⟩
  case round =>
    obtain ⟨rfl, hK⟩ := hrel
    go_wp2
    go_ret
    exact ⟨rfl, hK⟩

theorem idxNilHouse_any {w : World} {a : Option Addr} {c g : Nat} {lb : Array Value} : Calls Tryz.prog 240 #[.slice a 0 c, .func (.func g) #[] lb] w fun e w' => e = .returned (.int .i64 (-1)) ∧ Keep (fun _ => False) w w' := by
  go_enter Tryz.func240, Tryz.ntmps240
  go_wp2
  go_loopw [5, 8] (fun _ iv wr => iv = .int .i64 0 ∧ Keep (fun _ => False) w wr) (fun _ iv _ => 0)
  case atStart => exact ⟨rfl, Keep.refl _ _⟩
  case round =>
    obtain ⟨rfl, hK⟩ := hrel
    go_wp2
    go_ret
    exact ⟨rfl, hK⟩
theorem conNilHouse_any {w : World} {a : Option Addr} {c g : Nat} {lb : Array Value} : Calls Tryz.prog 150 #[.slice a 0 c, .func (.func g) #[] lb] w fun e w' => e = .returned (.bool false) ∧ Keep (fun _ => False) w w' := by
  go_enter Tryz.func150, Tryz.ntmps150
  go_wp2_with (go_at_call 240; (with_reducible refine idxNilHouse_any.mono ?_); rintro e w9 ⟨rfl, k9⟩; have K9 := Lib.hid k9; clear k9)
  go_ret
  exact ⟨rfl, K9.out⟩
theorem allNilHouse_any {w : World} {a : Option Addr} {c g : Nat} {lb : Array Value} : Calls Tryz.prog 69 #[.slice a 0 c, .func (.func g) #[] lb] w fun e w' => e = .returned (.bool true) ∧ Keep (fun _ => False) w w' := by
  go_enter Tryz.func69, Tryz.ntmps69
  go_wp2_with (go_at_call 150; (with_reducible refine conNilHouse_any.mono ?_); rintro e w9 ⟨rfl, k9⟩; have K9 := Lib.hid k9; clear k9)
  go_ret
  exact ⟨rfl, Keep.trans (Keep.alloc (Keep.refl _ w) _) K9.out (fun _ h => h.elim)⟩
theorem risNilHouse_any {w : World} {a : Option Addr} {c g : Nat} {lb : Array Value} : Calls Tryz.prog 117 #[.slice a 0 c, .func (.func g) #[] lb] w fun e w' => e = .returned (.bool true) ∧ Keep (fun _ => False) w w' := by
  go_enter Tryz.func117, Tryz.ntmps117
  go_wp2
  go_loopw [5] (fun iv wr => iv = .int .i64 1 ∧ Keep (fun _ => False) w wr) (fun iv _ => 0)
  case atStart => exact ⟨rfl, Keep.refl _ _⟩
  case round =>
    obtain ⟨rfl, hK⟩ := hrel
    go_wp2
    go_ret
    exact ⟨rfl, hK⟩

theorem idxNilLot_any {w : World} {a : Option Addr} {c g : Nat} {lb : Array Value} : Calls Tryz.prog 244 #[.slice a 0 c, .func (.func g) #[] lb] w fun e w' => e = .returned (.int .i64 (-1)) ∧ Keep (fun _ => False) w w' := by
  go_enter Tryz.func244, Tryz.ntmps244
  go_wp2
  go_loopw [5, 8] (fun _ iv wr => iv = .int .i64 0 ∧ Keep (fun _ => False) w wr) (fun _ iv _ => 0)
  case atStart => exact ⟨rfl, Keep.refl _ _⟩
  case round =>
    obtain ⟨rfl, hK⟩ := hrel
    go_wp2
    go_ret
    exact ⟨rfl, hK⟩
theorem conNilLot_any {w : World} {a : Option Addr} {c g : Nat} {lb : Array Value} : Calls Tryz.prog 157 #[.slice a 0 c, .func (.func g) #[] lb] w fun e w' => e = .returned (.bool false) ∧ Keep (fun _ => False) w w' := by
  go_enter Tryz.func157, Tryz.ntmps157
  go_wp2_with (go_at_call 244; (with_reducible refine idxNilLot_any.mono ?_); rintro e w9 ⟨rfl, k9⟩; have K9 := Lib.hid k9; clear k9)
  go_ret
  exact ⟨rfl, K9.out⟩
theorem allNilLot_any {w : World} {a : Option Addr} {c g : Nat} {lb : Array Value} : Calls Tryz.prog 72 #[.slice a 0 c, .func (.func g) #[] lb] w fun e w' => e = .returned (.bool true) ∧ Keep (fun _ => False) w w' := by
  go_enter Tryz.func72, Tryz.ntmps72
  go_wp2_with (go_at_call 157; (with_reducible refine conNilLot_any.mono ?_); rintro e w9 ⟨rfl, k9⟩; have K9 := Lib.hid k9; clear k9)
  go_ret
  exact ⟨rfl, Keep.trans (Keep.alloc (Keep.refl _ w) _) K9.out (fun _ h => h.elim)⟩
theorem risNilLot_any {w : World} {a : Option Addr} {c g : Nat} {lb : Array Value} : Calls Tryz.prog 115 #[.slice a 0 c, .func (.func g) #[] lb] w fun e w' => e = .returned (.bool true) ∧ Keep (fun _ => False) w w' := by
  go_enter Tryz.func115, Tryz.ntmps115
  go_wp2
  go_loopw [5] (fun iv wr => iv = .int .i64 1 ∧ Keep (fun _ => False) w wr) (fun iv _ => 0)
  case atStart => exact ⟨rfl, Keep.refl _ _⟩
  case round =>
    obtain ⟨rfl, hK⟩ := hrel
    go_wp2
    go_ret
    exact ⟨rfl, hK⟩

set_option maxHeartbeats 4000000 in
theorem idxMo_any {w : World} {v : Value} {L : List MoM} (h : Seen w 4 v L.length (flat moC L)) (p : MoM → Bool) {g : Nat} {lb : Array Value} (eg : ∀ args w, (callFunc g args).run Tryz.prog w = .ok (.enter g args) w)
    (hp : ∀ x ∈ L, ∀ w', Keep (fun _ => False) w w' → Calls Tryz.prog g (#[.agg (moC x).toArray] ++ lb) w' fun e w'' => e = .returned (.bool (p x)) ∧ Keep (fun _ => False) w' w'') :
    Calls Tryz.prog 238 #[v, .func (.func g) #[] lb] w fun e w' => e = .returned (.int .i64 (findI p L)) ∧ Keep (fun _ => False) w w' := by
  obtain ⟨_, a, cap, rfl, hc1, hc2, hcell⟩ := h
  unfold maxLen at hc2
  have HC := Lib.hid hcell; have HP := Lib.hid hp
  clear hcell hp
  go_enter Tryz.func238, Tryz.ntmps238
  go_wp2
  go_loopw [5, 8] (fun _ iv wr => IxR p L w iv wr) (fun _ iv _ => L.length - (intOf iv).toNat)
  case atStart => exact ⟨0, by omega, rfl, fun j a hj => by omega, Keep.refl _ _⟩
  case round =>
    obtain ⟨k, hk, rfl, hall, hK⟩ := hrel.ex
    have HA := Lib.hid hall; have HK := Lib.hid hK
    clear hall hK hrel
    by_cases hlt : k < L.length
    · have hd1 : decide (k < L.length) = true := by simpa using hlt
      obtain ⟨x, hx⟩ : ∃ x, L[k]? = some x := ⟨_, List.getElem?_eq_getElem hlt⟩
      obtain ⟨g1, off, rfl, hg, q⟩ := HC.out.resolve_left (by omega)
      have hrg := seen_range moC_len HK.out hg q hx
      have q0 : wr.cell? ⟨g1, off + k * 4, none⟩ = some (.int .i64 x.id) := hrg 0 _ rfl
      have q1 : wr.cell? ⟨g1, off + k * 4 + 1, none⟩ = some (.int .i64 x.proto) := hrg 1 _ rfl
      have q2 : wr.cell? ⟨g1, off + k * 4 + 2, none⟩ = some (.int .i64 x.room) := hrg 2 _ rfl
      have q3 : wr.cell? ⟨g1, off + k * 4 + 3, none⟩ = some (.int .i64 x.hp) := hrg 3 _ rfl
      have hm := List.mem_of_getElem? hx
      have HX := Lib.hid hx
      have HCL : Hid (Calls Tryz.prog g (#[.agg #[.int .i64 x.id, .int .i64 x.proto, .int .i64 x.room, .int .i64 x.hp]] ++ lb) wr fun e w'' => e = .returned (.bool (p x)) ∧ Keep (fun _ => False) wr w'') := Lib.hid (HP.out x hm wr HK.out)
      clear hrg hx q hm
      cases hpx : p x with
      | true =>
        have HPX := Lib.hid hpx
        rw [hpx] at HCL
        clear hpx
        go_wp2_with (go_at_fn g; (refine HCL.out.mono ?_); rintro e w9 ⟨rfl, k9⟩; have K9 := Lib.hid k9; clear k9)
        go_ret
        exact ⟨by rw [findI_at HA.out HX.out HPX.out]; rfl, HK.out.trans K9.out (fun _ h => h.elim)⟩
      | false =>
        have HPX := Lib.hid hpx
        rw [hpx] at HCL
        clear hpx
        go_wp2_with (go_at_fn g; (refine HCL.out.mono ?_); rintro e w9 ⟨rfl, k9⟩; have K9 := Lib.hid k9; clear k9)
        go_roundw
        case rel => exact ⟨k + 1, by omega, by go_num, scan_next HA.out HX.out HPX.out, HK.out.trans K9.out (fun _ h => h.elim)⟩
        case measure => simp [intOf]; omega
    · have hd1 : decide (k < L.length) = false := by rw [decide_eq_false_iff_not]; omega
      have HF := Lib.hid (findI_none (scan_end HA.out (by omega)))
      go_wp2
      go_ret
      exact ⟨by rw [HF.out]; rfl, HK.out⟩
set_option maxHeartbeats 4000000 in
theorem conMo_any {w : World} {v : Value} {L : List MoM} (h : Seen w 4 v L.length (flat moC L)) (p : MoM → Bool) {g : Nat} {lb : Array Value} (eg : ∀ args w, (callFunc g args).run Tryz.prog w = .ok (.enter g args) w)
    (hp : ∀ x ∈ L, ∀ w', Keep (fun _ => False) w w' → Calls Tryz.prog g (#[.agg (moC x).toArray] ++ lb) w' fun e w'' => e = .returned (.bool (p x)) ∧ Keep (fun _ => False) w' w'') :
    Calls Tryz.prog 147 #[v, .func (.func g) #[] lb] w fun e w' => e = .returned (.bool (L.any p)) ∧ Keep (fun _ => False) w w' := by
  have HI := Lib.hid (idxMo_any h p eg hp)
  have ha := findI_any p L
  generalize L.any p = z at *
  generalize findI p L = m at *
  clear h hp eg
  go_enter Tryz.func147, Tryz.ntmps147
  go_wp2_with (go_at_call 238; (refine HI.out.mono ?_); rintro e w9 ⟨rfl, k9⟩; have K9 := Lib.hid k9; clear k9)
  go_ret
  exact ⟨rfl, K9.out⟩
set_option maxHeartbeats 4000000 in
theorem allCMo_any {W : World} {q1 g : Nat} {lb : Array Value} {x : MoM} {z : Bool} (hq : W.cell? ⟨q1, 0, none⟩ = some (.func (.func g) #[] lb)) (eg : ∀ args w, (callFunc g args).run Tryz.prog w = .ok (.enter g args) w)
    (hp : ∀ w', Keep (fun _ => False) W w' → Calls Tryz.prog g (#[.agg (moC x).toArray] ++ lb) w' fun e w'' => e = .returned (.bool z) ∧ Keep (fun _ => False) w' w'') :
    Calls Tryz.prog 148 #[.agg (moC x).toArray, .pointer (some ⟨q1, 0, none⟩)] W fun e w' => e = .returned (.bool (!z)) ∧ Keep (fun _ => False) W w' := by
  obtain ⟨W2, hW2⟩ : ∃ W2, W2 = W.alloc (.cells (moC x).toArray 76) := ⟨_, rfl⟩
  have hk : Keep (fun _ => False) W W2 := by rw [hW2]; exact (Keep.refl _ W).alloc _
  have hX : W2.heap[W.heap.size]? = some (.cells (moC x).toArray 76 (0, 0)) := by rw [hW2]; exact heap_alloc_new W _
  have hq2 : W2.cell? ⟨q1, 0, none⟩ = some (.func (.func g) #[] lb) := (hk.cell (cell_lt hq) (fun h => h) _).trans hq
  have hc := hp W2 hk
  have HWE := Lib.hid hW2.symm
  have HK := Lib.hid hk
  have x0 : W2.cell? ⟨W.heap.size, 0, none⟩ = some (.int .i64 x.id) := (cell_of_row W2 W.heap.size 0 _ _ _ hX).trans rfl
  have x1 : W2.cell? ⟨W.heap.size, 1, none⟩ = some (.int .i64 x.proto) := (cell_of_row W2 W.heap.size 1 _ _ _ hX).trans rfl
  have x2 : W2.cell? ⟨W.heap.size, 2, none⟩ = some (.int .i64 x.room) := (cell_of_row W2 W.heap.size 2 _ _ _ hX).trans rfl
  have x3 : W2.cell? ⟨W.heap.size, 3, none⟩ = some (.int .i64 x.hp) := (cell_of_row W2 W.heap.size 3 _ _ _ hX).trans rfl
  rw [hW2] at hq2 x0 x1 x2 x3
  simp only [moC] at HWE hc hq2 x0 x1 x2 x3 ⊢
  have HC := Lib.hid hc
  have hql := cell_lt hq
  clear hW2 hk hX hc hp hq
  go_enter Tryz.func148, Tryz.ntmps148
  go_wp2_with (go_at_fn g; rw [HWE.out]; (refine HC.out.mono ?_); rintro e w9 ⟨rfl, k9⟩; have K9 := Lib.hid k9; clear k9)
  go_ret
  exact ⟨by simp, HK.out.trans K9.out (fun _ h => h.elim)⟩
theorem Tryz.en_allCMo : ∀ args w, (callFunc 148 args).run Tryz.prog w = .ok (.enter 148 args) w := enters_of Tryz.func148 (by kernel_rfl) rfl
set_option maxHeartbeats 4000000 in
theorem allMoE_any {w : World} {v : Value} {L : List MoM} (h : Seen w 4 v L.length (flat moC L)) (p : MoM → Bool) {g : Nat} {lb : Array Value} (eg : ∀ args w, (callFunc g args).run Tryz.prog w = .ok (.enter g args) w)
    (hp : ∀ x ∈ L, ∀ w', Keep (fun _ => False) w w' → Calls Tryz.prog g (#[.agg (moC x).toArray] ++ lb) w' fun e w'' => e = .returned (.bool (p x)) ∧ Keep (fun _ => False) w' w'') :
    Calls Tryz.prog 66 #[v, .func (.func g) #[] lb] w fun e w' => e = .returned (.bool (L.all p)) ∧ Keep (fun _ => False) w w' := by
  obtain ⟨W0, hW0⟩ : ∃ W0, W0 = w.alloc (.cells #[.func (.func g) #[] lb] 117) := ⟨_, rfl⟩
  have hk : Keep (fun _ => False) w W0 := by rw [hW0]; exact (Keep.refl _ w).alloc _
  have hq1 : W0.cell? ⟨w.heap.size, 0, none⟩ = some (.func (.func g) #[] lb) := by rw [hW0, cell_of_row _ _ _ _ _ _ (heap_alloc_new w _)]; rfl
  have hc := conMo_any (h.keep hk (fun _ _ _ h => h)) (fun x => !(p x)) (lb := #[.pointer (some ⟨w.heap.size, 0, none⟩)]) Tryz.en_allCMo (fun x hx w' k' => allCMo_any ((k'.cell (cell_lt hq1) (fun h => h) _).trans hq1) eg (fun w9 k9 => hp x hx w9 ((hk.trans k' (fun _ h => h.elim)).trans k9 (fun _ h => h.elim))))
  have he := any_not_all p L
  have HC := Lib.hid hc
  have HK := Lib.hid hk
  have HWE := Lib.hid hW0.symm
  generalize L.all p = z at *
  generalize L.any (fun x => !(p x)) = y at *
  clear hc hk hW0 hq1 h hp
  go_enter Tryz.func66, Tryz.ntmps66
  go_wp2_with (go_at_call 147; rw [HWE.out]; (refine HC.out.mono ?_); rintro e w9 ⟨rfl, k9⟩; have K9 := Lib.hid k9; clear k9)
  go_ret
  exact ⟨by rw [← he]; rfl, HK.out.trans K9.out (fun _ h => h.elim)⟩

set_option maxHeartbeats 4000000 in
theorem idxRo_any {w : World} {v : Value} {L : List RoomM} (h : Seen w 10 v L.length (flat roomC L)) (p : RoomM → Bool) {g : Nat} {lb : Array Value} (eg : ∀ args w, (callFunc g args).run Tryz.prog w = .ok (.enter g args) w)
    (hp : ∀ x ∈ L, ∀ w', Keep (fun _ => False) w w' → Calls Tryz.prog g (#[.agg (roomC x).toArray] ++ lb) w' fun e w'' => e = .returned (.bool (p x)) ∧ Keep (fun _ => False) w' w'') :
    Calls Tryz.prog 246 #[v, .func (.func g) #[] lb] w fun e w' => e = .returned (.int .i64 (findI p L)) ∧ Keep (fun _ => False) w w' := by
  obtain ⟨_, a, cap, rfl, hc1, hc2, hcell⟩ := h
  unfold maxLen at hc2
  have HC := Lib.hid hcell; have HP := Lib.hid hp
  clear hcell hp
  go_enter Tryz.func246, Tryz.ntmps246
  go_wp2
  go_loopw [5, 8] (fun _ iv wr => IxR p L w iv wr) (fun _ iv _ => L.length - (intOf iv).toNat)
  case atStart => exact ⟨0, by omega, rfl, fun j a hj => by omega, Keep.refl _ _⟩
  case round =>
    obtain ⟨k, hk, rfl, hall, hK⟩ := hrel.ex
    have HA := Lib.hid hall; have HK := Lib.hid hK
    clear hall hK hrel
    by_cases hlt : k < L.length
    · have hd1 : decide (k < L.length) = true := by simpa using hlt
      obtain ⟨x, hx⟩ : ∃ x, L[k]? = some x := ⟨_, List.getElem?_eq_getElem hlt⟩
      obtain ⟨g1, off, rfl, hg, q⟩ := HC.out.resolve_left (by omega)
      have hrg := seen_range roomC_len HK.out hg q hx
      have q0 : wr.cell? ⟨g1, off + k * 10, none⟩ = some (.int .i64 x.id) := hrg 0 _ rfl
      have q1 : wr.cell? ⟨g1, off + k * 10 + 1, none⟩ = some (.string x.name) := hrg 1 _ rfl
      have q2 : wr.cell? ⟨g1, off + k * 10 + 2, none⟩ = some (.int .i64 x.kind) := hrg 2 _ rfl
      have q3 : wr.cell? ⟨g1, off + k * 10 + 3, none⟩ = some (.int .i64 x.price) := hrg 3 _ rfl
      have q4 : wr.cell? ⟨g1, off + k * 10 + 4, none⟩ = some (.int .i64 x.e0) := hrg 4 _ rfl
      have q5 : wr.cell? ⟨g1, off + k * 10 + 5, none⟩ = some (.int .i64 x.e1) := hrg 5 _ rfl
      have q6 : wr.cell? ⟨g1, off + k * 10 + 6, none⟩ = some (.int .i64 x.e2) := hrg 6 _ rfl
      have q7 : wr.cell? ⟨g1, off + k * 10 + 7, none⟩ = some (.int .i64 x.e3) := hrg 7 _ rfl
      have q8 : wr.cell? ⟨g1, off + k * 10 + 8, none⟩ = some (.int .i64 x.e4) := hrg 8 _ rfl
      have q9 : wr.cell? ⟨g1, off + k * 10 + 9, none⟩ = some (.int .i64 x.e5) := hrg 9 _ rfl
      have hm := List.mem_of_getElem? hx
      have HX := Lib.hid hx
      have HCL : Hid (Calls Tryz.prog g (#[.agg #[.int .i64 x.id, .string x.name, .int .i64 x.kind, .int .i64 x.price, .int .i64 x.e0, .int .i64 x.e1, .int .i64 x.e2, .int .i64 x.e3, .int .i64 x.e4, .int .i64 x.e5]] ++ lb) wr fun e w'' => e = .returned (.bool (p x)) ∧ Keep (fun _ => False) wr w'') := Lib.hid (HP.out x hm wr HK.out)
      clear hrg hx q hm
      cases hpx : p x with
      | true =>
        have HPX := Lib.hid hpx
        rw [hpx] at HCL
        clear hpx
        go_wp2_with (go_at_fn g; (refine HCL.out.mono ?_); rintro e w9 ⟨rfl, k9⟩; have K9 := Lib.hid k9; clear k9)
        go_ret
        exact ⟨by rw [findI_at HA.out HX.out HPX.out]; rfl, HK.out.trans K9.out (fun _ h => h.elim)⟩
      | false =>
        have HPX := Lib.hid hpx
        rw [hpx] at HCL
        clear hpx
        go_wp2_with (go_at_fn g; (refine HCL.out.mono ?_); rintro e w9 ⟨rfl, k9⟩; have K9 := Lib.hid k9; clear k9)
        go_roundw
        case rel => exact ⟨k + 1, by omega, by go_num, scan_next HA.out HX.out HPX.out, HK.out.trans K9.out (fun _ h => h.elim)⟩
        case measure => simp [intOf]; omega
    · have hd1 : decide (k < L.length) = false := by rw [decide_eq_false_iff_not]; omega
      have HF := Lib.hid (findI_none (scan_end HA.out (by omega)))
      go_wp2
      go_ret
      exact ⟨by rw [HF.out]; rfl, HK.out⟩
set_option maxHeartbeats 4000000 in
theorem conRo_any {w : World} {v : Value} {L : List RoomM} (h : Seen w 10 v L.length (flat roomC L)) (p : RoomM → Bool) {g : Nat} {lb : Array Value} (eg : ∀ args w, (callFunc g args).run Tryz.prog w = .ok (.enter g args) w)
    (hp : ∀ x ∈ L, ∀ w', Keep (fun _ => False) w w' → Calls Tryz.prog g (#[.agg (roomC x).toArray] ++ lb) w' fun e w'' => e = .returned (.bool (p x)) ∧ Keep (fun _ => False) w' w'') :
    Calls Tryz.prog 161 #[v, .func (.func g) #[] lb] w fun e w' => e = .returned (.bool (L.any p)) ∧ Keep (fun _ => False) w w' := by
  have HI := Lib.hid (idxRo_any h p eg hp)
  have ha := findI_any p L
  generalize L.any p = z at *
  generalize findI p L = m at *
  clear h hp eg
  go_enter Tryz.func161, Tryz.ntmps161
  go_wp2_with (go_at_call 246; (refine HI.out.mono ?_); rintro e w9 ⟨rfl, k9⟩; have K9 := Lib.hid k9; clear k9)
  go_ret
  exact ⟨rfl, K9.out⟩
set_option maxHeartbeats 4000000 in
theorem allCRo_any {W : World} {q1 g : Nat} {lb : Array Value} {x : RoomM} {z : Bool} (hq : W.cell? ⟨q1, 0, none⟩ = some (.func (.func g) #[] lb)) (eg : ∀ args w, (callFunc g args).run Tryz.prog w = .ok (.enter g args) w)
    (hp : ∀ w', Keep (fun _ => False) W w' → Calls Tryz.prog g (#[.agg (roomC x).toArray] ++ lb) w' fun e w'' => e = .returned (.bool z) ∧ Keep (fun _ => False) w' w'') :
    Calls Tryz.prog 162 #[.agg (roomC x).toArray, .pointer (some ⟨q1, 0, none⟩)] W fun e w' => e = .returned (.bool (!z)) ∧ Keep (fun _ => False) W w' := by
  obtain ⟨W2, hW2⟩ : ∃ W2, W2 = W.alloc (.cells (roomC x).toArray 127) := ⟨_, rfl⟩
  have hk : Keep (fun _ => False) W W2 := by rw [hW2]; exact (Keep.refl _ W).alloc _
  have hX : W2.heap[W.heap.size]? = some (.cells (roomC x).toArray 127 (0, 0)) := by rw [hW2]; exact heap_alloc_new W _
  have hq2 : W2.cell? ⟨q1, 0, none⟩ = some (.func (.func g) #[] lb) := (hk.cell (cell_lt hq) (fun h => h) _).trans hq
  have hc := hp W2 hk
  have HWE := Lib.hid hW2.symm
  have HK := Lib.hid hk
  have x0 : W2.cell? ⟨W.heap.size, 0, none⟩ = some (.int .i64 x.id) := (cell_of_row W2 W.heap.size 0 _ _ _ hX).trans rfl
  have x1 : W2.cell? ⟨W.heap.size, 1, none⟩ = some (.string x.name) := (cell_of_row W2 W.heap.size 1 _ _ _ hX).trans rfl
  have x2 : W2.cell? ⟨W.heap.size, 2, none⟩ = some (.int .i64 x.kind) := (cell_of_row W2 W.heap.size 2 _ _ _ hX).trans rfl
  have x3 : W2.cell? ⟨W.heap.size, 3, none⟩ = some (.int .i64 x.price) := (cell_of_row W2 W.heap.size 3 _ _ _ hX).trans rfl
  have x4 : W2.cell? ⟨W.heap.size, 4, none⟩ = some (.int .i64 x.e0) := (cell_of_row W2 W.heap.size 4 _ _ _ hX).trans rfl
  have x5 : W2.cell? ⟨W.heap.size, 5, none⟩ = some (.int .i64 x.e1) := (cell_of_row W2 W.heap.size 5 _ _ _ hX).trans rfl
  have x6 : W2.cell? ⟨W.heap.size, 6, none⟩ = some (.int .i64 x.e2) := (cell_of_row W2 W.heap.size 6 _ _ _ hX).trans rfl
  have x7 : W2.cell? ⟨W.heap.size, 7, none⟩ = some (.int .i64 x.e3) := (cell_of_row W2 W.heap.size 7 _ _ _ hX).trans rfl
  have x8 : W2.cell? ⟨W.heap.size, 8, none⟩ = some (.int .i64 x.e4) := (cell_of_row W2 W.heap.size 8 _ _ _ hX).trans rfl
  have x9 : W2.cell? ⟨W.heap.size, 9, none⟩ = some (.int .i64 x.e5) := (cell_of_row W2 W.heap.size 9 _ _ _ hX).trans rfl
  rw [hW2] at hq2 x0 x1 x2 x3 x4 x5 x6 x7 x8 x9
  simp only [roomC] at HWE hc hq2 x0 x1 x2 x3 x4 x5 x6 x7 x8 x9 ⊢
  have HC := Lib.hid hc
  have hql := cell_lt hq
  clear hW2 hk hX hc hp hq
  go_enter Tryz.func162, Tryz.ntmps162
  go_wp2_with (go_at_fn g; rw [HWE.out]; (refine HC.out.mono ?_); rintro e w9 ⟨rfl, k9⟩; have K9 := Lib.hid k9; clear k9)
  go_ret
  exact ⟨by simp, HK.out.trans K9.out (fun _ h => h.elim)⟩
theorem Tryz.en_allCRo : ∀ args w, (callFunc 162 args).run Tryz.prog w = .ok (.enter 162 args) w := enters_of Tryz.func162 (by kernel_rfl) rfl
set_option maxHeartbeats 4000000 in
theorem allRoE_any {w : World} {v : Value} {L : List RoomM} (h : Seen w 10 v L.length (flat roomC L)) (p : RoomM → Bool) {g : Nat} {lb : Array Value} (eg : ∀ args w, (callFunc g args).run Tryz.prog w = .ok (.enter g args) w)
    (hp : ∀ x ∈ L, ∀ w', Keep (fun _ => False) w w' → Calls Tryz.prog g (#[.agg (roomC x).toArray] ++ lb) w' fun e w'' => e = .returned (.bool (p x)) ∧ Keep (fun _ => False) w' w'') :
    Calls Tryz.prog 75 #[v, .func (.func g) #[] lb] w fun e w' => e = .returned (.bool (L.all p)) ∧ Keep (fun _ => False) w w' := by
  obtain ⟨W0, hW0⟩ : ∃ W0, W0 = w.alloc (.cells #[.func (.func g) #[] lb] 129) := ⟨_, rfl⟩
  have hk : Keep (fun _ => False) w W0 := by rw [hW0]; exact (Keep.refl _ w).alloc _
  have hq1 : W0.cell? ⟨w.heap.size, 0, none⟩ = some (.func (.func g) #[] lb) := by rw [hW0, cell_of_row _ _ _ _ _ _ (heap_alloc_new w _)]; rfl
  have hc := conRo_any (h.keep hk (fun _ _ _ h => h)) (fun x => !(p x)) (lb := #[.pointer (some ⟨w.heap.size, 0, none⟩)]) Tryz.en_allCRo (fun x hx w' k' => allCRo_any ((k'.cell (cell_lt hq1) (fun h => h) _).trans hq1) eg (fun w9 k9 => hp x hx w9 ((hk.trans k' (fun _ h => h.elim)).trans k9 (fun _ h => h.elim))))
  have he := any_not_all p L
  have HC := Lib.hid hc
  have HK := Lib.hid hk
  have HWE := Lib.hid hW0.symm
  generalize L.all p = z at *
  generalize L.any (fun x => !(p x)) = y at *
  clear hc hk hW0 hq1 h hp
  go_enter Tryz.func75, Tryz.ntmps75
  go_wp2_with (go_at_call 161; rw [HWE.out]; (refine HC.out.mono ?_); rintro e w9 ⟨rfl, k9⟩; have K9 := Lib.hid k9; clear k9)
  go_ret
  exact ⟨by rw [← he]; rfl, HK.out.trans K9.out (fun _ h => h.elim)⟩

set_option maxHeartbeats 4000000 in
theorem idxNu_any {w : World} {v : Value} {L : List Int} (h : Seen w 1 v L.length (flat icellC L)) (p : Int → Bool) {g : Nat} {lb : Array Value} (eg : ∀ args w, (callFunc g args).run Tryz.prog w = .ok (.enter g args) w)
    (hp : ∀ x ∈ L, ∀ w', Keep (fun _ => False) w w' → Calls Tryz.prog g (#[.int .i64 x] ++ lb) w' fun e w'' => e = .returned (.bool (p x)) ∧ Keep (fun _ => False) w' w'') :
    Calls Tryz.prog 310 #[v, .func (.func g) #[] lb] w fun e w' => e = .returned (.int .i64 (findI p L)) ∧ Keep (fun _ => False) w w' := by
  obtain ⟨_, a, cap, rfl, hc1, hc2, hcell⟩ := h
  unfold maxLen at hc2
  have HC := Lib.hid hcell; have HP := Lib.hid hp
  clear hcell hp
  go_enter Tryz.func310, Tryz.ntmps310
  go_wp2
  go_loopw [5, 8] (fun _ iv wr => IxR p L w iv wr) (fun _ iv _ => L.length - (intOf iv).toNat)
  case atStart => exact ⟨0, by omega, rfl, fun j a hj => by omega, Keep.refl _ _⟩
  case round =>
    obtain ⟨k, hk, rfl, hall, hK⟩ := hrel.ex
    have HA := Lib.hid hall; have HK := Lib.hid hK
    clear hall hK hrel
    by_cases hlt : k < L.length
    · have hd1 : decide (k < L.length) = true := by simpa using hlt
      obtain ⟨x, hx⟩ : ∃ x, L[k]? = some x := ⟨_, List.getElem?_eq_getElem hlt⟩
      obtain ⟨g1, off, rfl, hg, q⟩ := HC.out.resolve_left (by omega)
      have hrg := seen_range icellC_lenA HK.out hg q hx
      have q0 : wr.cell? ⟨g1, off + k, none⟩ = some (.int .i64 x) := (by have := hrg 0 (.int .i64 x) rfl; rwa [Nat.mul_one, Nat.add_zero] at this)
      have hm := List.mem_of_getElem? hx
      have HX := Lib.hid hx
      have HCL : Hid (Calls Tryz.prog g (#[.int .i64 x] ++ lb) wr fun e w'' => e = .returned (.bool (p x)) ∧ Keep (fun _ => False) wr w'') := Lib.hid (HP.out x hm wr HK.out)
      clear hrg hx q hm
      cases hpx : p x with
      | true =>
        have HPX := Lib.hid hpx
        rw [hpx] at HCL
        clear hpx
        go_wp2_with (go_at_fn g; (refine HCL.out.mono ?_); rintro e w9 ⟨rfl, k9⟩; have K9 := Lib.hid k9; clear k9)
        go_ret
        exact ⟨by rw [findI_at HA.out HX.out HPX.out]; rfl, HK.out.trans K9.out (fun _ h => h.elim)⟩
      | false =>
        have HPX := Lib.hid hpx
        rw [hpx] at HCL
        clear hpx
        go_wp2_with (go_at_fn g; (refine HCL.out.mono ?_); rintro e w9 ⟨rfl, k9⟩; have K9 := Lib.hid k9; clear k9)
        go_roundw
        case rel => exact ⟨k + 1, by omega, by go_num, scan_next HA.out HX.out HPX.out, HK.out.trans K9.out (fun _ h => h.elim)⟩
        case measure => simp [intOf]; omega
    · have hd1 : decide (k < L.length) = false := by rw [decide_eq_false_iff_not]; omega
      have HF := Lib.hid (findI_none (scan_end HA.out (by omega)))
      go_wp2
      go_ret
      exact ⟨by rw [HF.out]; rfl, HK.out⟩
set_option maxHeartbeats 4000000 in
theorem conNu_any {w : World} {v : Value} {L : List Int} (h : Seen w 1 v L.length (flat icellC L)) (p : Int → Bool) {g : Nat} {lb : Array Value} (eg : ∀ args w, (callFunc g args).run Tryz.prog w = .ok (.enter g args) w)
    (hp : ∀ x ∈ L, ∀ w', Keep (fun _ => False) w w' → Calls Tryz.prog g (#[.int .i64 x] ++ lb) w' fun e w'' => e = .returned (.bool (p x)) ∧ Keep (fun _ => False) w' w'') :
    Calls Tryz.prog 221 #[v, .func (.func g) #[] lb] w fun e w' => e = .returned (.bool (L.any p)) ∧ Keep (fun _ => False) w w' := by
  have HI := Lib.hid (idxNu_any h p eg hp)
  have ha := findI_any p L
  generalize L.any p = z at *
  generalize findI p L = m at *
  clear h hp eg
  go_enter Tryz.func221, Tryz.ntmps221
  go_wp2_with (go_at_call 310; (refine HI.out.mono ?_); rintro e w9 ⟨rfl, k9⟩; have K9 := Lib.hid k9; clear k9)
  go_ret
  exact ⟨rfl, K9.out⟩
set_option maxHeartbeats 4000000 in
theorem allCNu_any {W : World} {q1 g : Nat} {lb : Array Value} {x : Int} {z : Bool} (hq : W.cell? ⟨q1, 0, none⟩ = some (.func (.func g) #[] lb)) (eg : ∀ args w, (callFunc g args).run Tryz.prog w = .ok (.enter g args) w)
    (hp : ∀ w', Keep (fun _ => False) W w' → Calls Tryz.prog g (#[.int .i64 x] ++ lb) w' fun e w'' => e = .returned (.bool z) ∧ Keep (fun _ => False) w' w'') :
    Calls Tryz.prog 222 #[.int .i64 x, .pointer (some ⟨q1, 0, none⟩)] W fun e w' => e = .returned (.bool (!z)) ∧ Keep (fun _ => False) W w' := by
  have HC := Lib.hid (hp W (Keep.refl _ _))
  clear hp
  go_enter Tryz.func222, Tryz.ntmps222
  go_wp2_with (go_at_fn g; (refine HC.out.mono ?_); rintro e w9 ⟨rfl, k9⟩; have K9 := Lib.hid k9; clear k9)
  go_ret
  exact ⟨by simp, K9.out⟩
theorem Tryz.en_allCNu : ∀ args w, (callFunc 222 args).run Tryz.prog w = .ok (.enter 222 args) w := enters_of Tryz.func222 (by kernel_rfl) rfl
set_option maxHeartbeats 4000000 in
theorem allNuE_any {w : World} {v : Value} {L : List Int} (h : Seen w 1 v L.length (flat icellC L)) (p : Int → Bool) {g : Nat} {lb : Array Value} (eg : ∀ args w, (callFunc g args).run Tryz.prog w = .ok (.enter g args) w)
    (hp : ∀ x ∈ L, ∀ w', Keep (fun _ => False) w w' → Calls Tryz.prog g (#[.int .i64 x] ++ lb) w' fun e w'' => e = .returned (.bool (p x)) ∧ Keep (fun _ => False) w' w'') :
    Calls Tryz.prog 126 #[v, .func (.func g) #[] lb] w fun e w' => e = .returned (.bool (L.all p)) ∧ Keep (fun _ => False) w w' := by
  obtain ⟨W0, hW0⟩ : ∃ W0, W0 = w.alloc (.cells #[.func (.func g) #[] lb] 183) := ⟨_, rfl⟩
  have hk : Keep (fun _ => False) w W0 := by rw [hW0]; exact (Keep.refl _ w).alloc _
  have hq1 : W0.cell? ⟨w.heap.size, 0, none⟩ = some (.func (.func g) #[] lb) := by rw [hW0, cell_of_row _ _ _ _ _ _ (heap_alloc_new w _)]; rfl
  have hc := conNu_any (h.keep hk (fun _ _ _ h => h)) (fun x => !(p x)) (lb := #[.pointer (some ⟨w.heap.size, 0, none⟩)]) Tryz.en_allCNu (fun x hx w' k' => allCNu_any ((k'.cell (cell_lt hq1) (fun h => h) _).trans hq1) eg (fun w9 k9 => hp x hx w9 ((hk.trans k' (fun _ h => h.elim)).trans k9 (fun _ h => h.elim))))
  have he := any_not_all p L
  have HC := Lib.hid hc
  have HK := Lib.hid hk
  have HWE := Lib.hid hW0.symm
  generalize L.all p = z at *
  generalize L.any (fun x => !(p x)) = y at *
  clear hc hk hW0 hq1 h hp
  go_enter Tryz.func126, Tryz.ntmps126
  go_wp2_with (go_at_call 221; rw [HWE.out]; (refine HC.out.mono ?_); rintro e w9 ⟨rfl, k9⟩; have K9 := Lib.hid k9; clear k9)
  go_ret
  exact ⟨by rw [← he]; rfl, HK.out.trans K9.out (fun _ h => h.elim)⟩

theorem moIdE_any {w : World} (x : MoM) : Calls Tryz.prog 114 #[.agg (moC x).toArray] w fun e w' => e = .returned (.int .i64 x.id) ∧ ∃ n os, w' = grow (w.drewN n) os := by
  simp only [moC]
  go_enter Tryz.func114, Tryz.ntmps114
  go_wp2
  go_ret
  exact ⟨rfl, 0, _, by rw [alloc_eq_grow]; rfl⟩
set_option maxHeartbeats 8000000 in
theorem risesMoE_any {w : World} {v : Value} {L : List (MoM)} (h : Seen w 4 v L.length (flat moC L)) (_hl : L.length ≤ 1000000) :
    Calls Tryz.prog 113 #[v, .func (.func 114) #[] #[]] w fun e w' => ∃ b, e = .returned (.bool b) ∧ (b = true ↔ L.Pairwise (fun a b => a.id < b.id)) ∧ Keep (fun _ => False) w w' := by
  obtain ⟨_, a, cap, rfl, hc1, hc2, hcell⟩ := h
  unfold maxLen at hc2
  have HC := Lib.hid hcell
  have mixed := Tryz.mixedO
  clear hcell
  go_enter Tryz.func113, Tryz.ntmps113
  go_wp2
  go_loopw [5] (fun iv wr => RsR (fun x : MoM => x.id) L w iv wr) (fun iv _ => L.length + 1 - (intOf iv).toNat)
  case atStart => exact ⟨0, .inr rfl, rfl, riseTo_one _ _, Keep.refl _ _⟩
  case round =>
    obtain ⟨m, hm, rfl, hr, hK⟩ := hrel.ex
    have HA := Lib.hid hr; have HK := Lib.hid hK
    clear hr hK hrel
    obtain ⟨k, hk⟩ : ∃ k, k = m + 1 := ⟨_, rfl⟩
    rw [← hk]
    have HKM := Lib.hid hk
    have hm2 : k ≤ L.length ∨ m = 0 := by omega
    by_cases hlt : k < L.length
    · have hd1 : decide (k < L.length) = true := by simpa using hlt
      obtain ⟨x, hx⟩ : ∃ x, L[k]? = some x := ⟨_, List.getElem?_eq_getElem hlt⟩
      obtain ⟨y, hy⟩ : ∃ y, L[m]? = some y := ⟨_, List.getElem?_eq_getElem (by omega)⟩
      obtain ⟨g1, off, rfl, hg, q⟩ := HC.out.resolve_left (by omega)
      have hrx := seen_range moC_len HK.out hg q hx
      have hry := seen_range moC_len HK.out hg q hy
      have e1 : (k : Int) - 1 = (m : Int) := by omega
      have hwm : IntKind.i64.wrap (m : Int) = (m : Int) := Cd.i64_nat m (by omega)
      have hml : m < L.length := by omega
      clear hk hm hm2
      have HX := Lib.hid hx
      have HY := Lib.hid hy
      have y0 := fun n os => cell_grown (w := wr) (a := ⟨g1, off + m * 4, none⟩) (v := .int .i64 y.id) (Nat.lt_of_lt_of_le hg HK.out.size) (hry 0 _ rfl) n os
      have y1 := fun n os => cell_grown (w := wr) (a := ⟨g1, off + m * 4 + 1, none⟩) (v := .int .i64 y.proto) (Nat.lt_of_lt_of_le hg HK.out.size) (hry 1 _ rfl) n os
      have y2 := fun n os => cell_grown (w := wr) (a := ⟨g1, off + m * 4 + 2, none⟩) (v := .int .i64 y.room) (Nat.lt_of_lt_of_le hg HK.out.size) (hry 2 _ rfl) n os
      have y3 := fun n os => cell_grown (w := wr) (a := ⟨g1, off + m * 4 + 3, none⟩) (v := .int .i64 y.hp) (Nat.lt_of_lt_of_le hg HK.out.size) (hry 3 _ rfl) n os
      have x0 := fun n os => cell_grown (w := wr) (a := ⟨g1, off + k * 4, none⟩) (v := .int .i64 x.id) (Nat.lt_of_lt_of_le hg HK.out.size) (hrx 0 _ rfl) n os
      have x1 := fun n os => cell_grown (w := wr) (a := ⟨g1, off + k * 4 + 1, none⟩) (v := .int .i64 x.proto) (Nat.lt_of_lt_of_le hg HK.out.size) (hrx 1 _ rfl) n os
      have x2 := fun n os => cell_grown (w := wr) (a := ⟨g1, off + k * 4 + 2, none⟩) (v := .int .i64 x.room) (Nat.lt_of_lt_of_le hg HK.out.size) (hrx 2 _ rfl) n os
      have x3 := fun n os => cell_grown (w := wr) (a := ⟨g1, off + k * 4 + 3, none⟩) (v := .int .i64 x.hp) (Nat.lt_of_lt_of_le hg HK.out.size) (hrx 3 _ rfl) n os
      clear hrx hry hx hy q
      by_cases hle : x.id ≤ y.id
      · have hb : decide (x.id ≤ y.id) = true := by simpa using hle
        have HLE := Lib.hid hle
        clear hle
        go_wp2
        go_quiet_grown (first | (go_at_call 114; exact Calls.grown_of (moIdE_any _)))
        go_wp2
        go_ret
        exact ⟨false, rfl, by simp only [Bool.false_eq_true, false_iff]; exact rise_npair (key := (fun x : MoM => x.id)) (HKM.out ▸ HX.out) HY.out HLE.out, HK.out.trans (keep_grown nq osq) (fun _ h => h.elim)⟩
      · have hb : decide (x.id ≤ y.id) = false := by simpa using hle
        have HLE : Hid (y.id < x.id) := Lib.hid (by omega)
        clear hle
        go_wp2
        go_quiet_grown (first | (go_at_call 114; exact Calls.grown_of (moIdE_any _)))
        go_wp2
        go_roundw
        case rel => exact ⟨k, .inl (by omega), by go_num, HKM.out ▸ HA.out.next (HKM.out ▸ HX.out) rfl (fun z _ hz => by rw [show m + 1 - 1 = m by omega, HY.out] at hz; cases hz; exact HLE.out), HK.out.trans (keep_grown nq osq) (fun _ h => h.elim)⟩
        case measure => simp [intOf]; omega
    · have hd1 : decide (k < L.length) = false := by rw [decide_eq_false_iff_not]; omega
      clear hk hm
      go_wp2
      go_ret
      exact ⟨true, rfl, by simp only [true_iff]; exact rise_pair HA.out (by have := HKM.out; omega), HK.out⟩

theorem sameE_any {w : World} (x : Int) : Calls Tryz.prog 125 #[.int .i64 x] w fun e w' => e = .returned (.int .i64 x) ∧ ∃ n os, w' = grow (w.drewN n) os := by
  go_enter Tryz.func125, Tryz.ntmps125
  go_wp2
  go_ret
  exact ⟨rfl, 0, #[], by rw [grow_empty]; rfl⟩
set_option maxHeartbeats 8000000 in
theorem risesNuE_any {w : World} {v : Value} {L : List (Int)} (h : Seen w 1 v L.length (flat icellC L)) (_hl : L.length ≤ 1000000) :
    Calls Tryz.prog 124 #[v, .func (.func 125) #[] #[]] w fun e w' => ∃ b, e = .returned (.bool b) ∧ (b = true ↔ L.Pairwise (fun a b => a < b)) ∧ Keep (fun _ => False) w w' := by
  obtain ⟨_, a, cap, rfl, hc1, hc2, hcell⟩ := h
  unfold maxLen at hc2
  have HC := Lib.hid hcell
  have mixed := Tryz.mixedO
  clear hcell
  go_enter Tryz.func124, Tryz.ntmps124
  go_wp2
  go_loopw [5] (fun iv wr => RsR (fun x : Int => x) L w iv wr) (fun iv _ => L.length + 1 - (intOf iv).toNat)
  case atStart => exact ⟨0, .inr rfl, rfl, riseTo_one _ _, Keep.refl _ _⟩
  case round =>
    obtain ⟨m, hm, rfl, hr, hK⟩ := hrel.ex
    have HA := Lib.hid hr; have HK := Lib.hid hK
    clear hr hK hrel
    obtain ⟨k, hk⟩ : ∃ k, k = m + 1 := ⟨_, rfl⟩
    rw [← hk]
    have HKM := Lib.hid hk
    have hm2 : k ≤ L.length ∨ m = 0 := by omega
    by_cases hlt : k < L.length
    · have hd1 : decide (k < L.length) = true := by simpa using hlt
      obtain ⟨x, hx⟩ : ∃ x, L[k]? = some x := ⟨_, List.getElem?_eq_getElem hlt⟩
      obtain ⟨y, hy⟩ : ∃ y, L[m]? = some y := ⟨_, List.getElem?_eq_getElem (by omega)⟩
      obtain ⟨g1, off, rfl, hg, q⟩ := HC.out.resolve_left (by omega)
      have hrx := seen_range icellC_lenA HK.out hg q hx
      have hry := seen_range icellC_lenA HK.out hg q hy
      have e1 : (k : Int) - 1 = (m : Int) := by omega
      have hwm : IntKind.i64.wrap (m : Int) = (m : Int) := Cd.i64_nat m (by omega)
      have hml : m < L.length := by omega
      clear hk hm hm2
      have HX := Lib.hid hx
      have HY := Lib.hid hy
      have y0 := fun n os => cell_grown (w := wr) (a := ⟨g1, off + m, none⟩) (v := .int .i64 y) (Nat.lt_of_lt_of_le hg HK.out.size) ((by have := hry 0 (.int .i64 y) rfl; rwa [Nat.mul_one, Nat.add_zero] at this)) n os
      have x0 := fun n os => cell_grown (w := wr) (a := ⟨g1, off + k, none⟩) (v := .int .i64 x) (Nat.lt_of_lt_of_le hg HK.out.size) ((by have := hrx 0 (.int .i64 x) rfl; rwa [Nat.mul_one, Nat.add_zero] at this)) n os
      clear hrx hry hx hy q
      by_cases hle : x ≤ y
      · have hb : decide (x ≤ y) = true := by simpa using hle
        have HLE := Lib.hid hle
        clear hle
        go_wp2
        go_quiet_grown (first | (go_at_call 125; exact Calls.grown_of (sameE_any _)))
        go_wp2
        go_ret
        exact ⟨false, rfl, by simp only [Bool.false_eq_true, false_iff]; exact rise_npair (key := (fun x : Int => x)) (HKM.out ▸ HX.out) HY.out HLE.out, HK.out.trans (keep_grown nq osq) (fun _ h => h.elim)⟩
      · have hb : decide (x ≤ y) = false := by simpa using hle
        have HLE : Hid (y < x) := Lib.hid (by omega)
        clear hle
        go_wp2
        go_quiet_grown (first | (go_at_call 125; exact Calls.grown_of (sameE_any _)))
        go_wp2
        go_roundw
        case rel => exact ⟨k, .inl (by omega), by go_num, HKM.out ▸ HA.out.next (HKM.out ▸ HX.out) rfl (fun z _ hz => by rw [show m + 1 - 1 = m by omega, HY.out] at hz; cases hz; exact HLE.out), HK.out.trans (keep_grown nq osq) (fun _ h => h.elim)⟩
        case measure => simp [intOf]; omega
    · have hd1 : decide (k < L.length) = false := by rw [decide_eq_false_iff_not]; omega
      clear hk hm
      go_wp2
      go_ret
      exact ⟨true, rfl, by simp only [true_iff]; exact rise_pair HA.out (by have := HKM.out; omega), HK.out⟩
end Go.Proofs.YtheaghgockafmaaGreat.Wd
