/- Demands of May, of a new world: mobiles, tills, rooms. -/
import Derived.Test.YtheaghgockafmaaGreatEbF
namespace Go.Proofs.YtheaghgockafmaaGreat.Wd
open Go.RowKit Go.Maps Go.Proofs.YtheaghgockafmaaGreat Go.Proofs.YtheaghgockafmaaGreat.Lin Go.Sort
set_option maxRecDepth 100000

set_option maxHeartbeats 4000000 in
theorem mobC_any {w : World} {d q : Nat} {m : MoM} (hq : w.cell? ⟨q, 0, none⟩ = some (.pointer (some ⟨d, 0, none⟩)))
    (hp : ∀ w', Keep (fun _ => False) w w' → Calls Tryz.prog 68 #[.pointer (some ⟨d, 0, none⟩), .agg (moC m).toArray] w' fun e w'' => e = .returned (.bool true) ∧ Keep (fun _ => False) w' w'') :
    Calls Tryz.prog 67 #[.agg (moC m).toArray, .pointer (some ⟨q, 0, none⟩)] w fun e w' => e = .returned (.bool true) ∧ Keep (fun _ => False) w w' := by
  have hk : Keep (fun _ => False) w (w.alloc (.cells (moC m).toArray 76)) := (Keep.refl _ w).alloc _
  have hb := heap_alloc_new w (.cells (moC m).toArray 76)
  have x0 : (w.alloc (.cells (moC m).toArray 76)).cell? ⟨w.heap.size, 0, none⟩ = some (.int .i64 m.id) := (cell_of_row _ _ 0 _ _ _ hb).trans rfl
  have x1 : (w.alloc (.cells (moC m).toArray 76)).cell? ⟨w.heap.size, 1, none⟩ = some (.int .i64 m.proto) := (cell_of_row _ _ 1 _ _ _ hb).trans rfl
  have x2 : (w.alloc (.cells (moC m).toArray 76)).cell? ⟨w.heap.size, 2, none⟩ = some (.int .i64 m.room) := (cell_of_row _ _ 2 _ _ _ hb).trans rfl
  have x3 : (w.alloc (.cells (moC m).toArray 76)).cell? ⟨w.heap.size, 3, none⟩ = some (.int .i64 m.hp) := (cell_of_row _ _ 3 _ _ _ hb).trans rfl
  have hq2 : (w.alloc (.cells (moC m).toArray 76)).cell? ⟨q, 0, none⟩ = some (.pointer (some ⟨d, 0, none⟩)) := (hk.cell (cell_lt hq) (fun h => h) _).trans hq
  have hc := hp _ hk
  have hql := cell_lt hq
  simp only [moC] at hk hc hq2 x0 x1 x2 x3 ⊢
  have HC := Lib.hid hc
  have HK := Lib.hid hk
  clear hk hb hc hp hq
  go_enter Tryz.func67, Tryz.ntmps67
  go_wp2_with (go_at_call 68; (with_reducible refine HC.out.mono ?_); rintro e w9 ⟨rfl, k9⟩; have K9 := Lib.hid k9; clear k9)
  go_ret
  exact ⟨rfl, HK.out.trans K9.out (fun _ h => h.elim)⟩
theorem Tryz.en_mobC : ∀ args w, (callFunc 67 args).run Tryz.prog w = .ok (.enter 67 args) w := enters_of Tryz.func67 (by kernel_rfl) rfl

set_option maxHeartbeats 4000000 in
theorem isTill_any {w : World} {r g : Int} {m : ShopM} {a : Option Addr} {c : Nat} (hr : r = m.room) (h1 : 0 ≤ g) (h2 : g ≤ 1099511627776) :
    Calls Tryz.prog 79 #[.agg #[.int .i64 r, .int .i64 g], .agg #[.int .i64 m.room, .int .i64 m.till, .slice a m.items.length c]] w fun e w' => e = .returned (.bool true) ∧ Keep (fun _ => False) w w' := by
  subst hr
  have HK : Hid (Keep (fun _ => False) w ((w.alloc (.cells #[.int .i64 m.room, .int .i64 g] 82)).alloc (.cells #[.int .i64 m.room, .int .i64 m.till, .slice a m.items.length c] 107))) := Lib.hid (((Keep.refl _ w).alloc _).alloc _)
  go_enter Tryz.func79, Tryz.ntmps79
  go_wp2_with (go_at_call 133; (with_reducible refine (isGoldE_any h1 h2).mono ?_); rintro e w9 ⟨rfl, rfl⟩)
  go_ret
  exact ⟨by simp, HK.out⟩
structure EqR (n : Nat) (w0 : World) (iv : Value) (wr : World) : Prop where
  ex : ∃ k : Nat, k ≤ n ∧ iv = .int .i64 (k : Int) ∧ Keep (fun _ => False) w0 wr
set_option maxHeartbeats 8000000 in
theorem equalT_any {w : World} {v1 v2 : Value} {L : List ShopM} {ss : List (ShopM × Value)} (h1 : Rec w 82 tiC 2 v1 (tillsL L)) (h2 : Rec w 107 shopC 3 v2 ss) (hs : ss.map Prod.fst = L)
    (hi : ∀ x ∈ ss, ∃ a c, x.2 = .slice a x.1.items.length c) (hg : ∀ x ∈ L, 0 ≤ x.till ∧ x.till ≤ 1099511627776) (hl : L.length ≤ 1000) :
    Calls Tryz.prog 78 #[v1, v2, .func (.func 79) #[] #[]] w fun e w' => e = .returned (.bool true) ∧ Keep (fun _ => False) w w' := by
  have hsl : ss.length = L.length := by rw [← hs, List.length_map]
  obtain ⟨a1, c1, rfl, x1, y1⟩ := h1.slice
  obtain ⟨a2, c2, rfl, x2, y2⟩ := h2.slice
  rw [tillsL_len] at h1 x1 ⊢
  rw [hsl] at h2 x2 ⊢
  unfold maxLen at y1 y2
  have H1 : Hid (∀ w9, Keep (fun _ => False) w w9 → Rec w9 82 tiC 2 (.slice a1 L.length c1) (tillsL L)) := Lib.hid (fun w9 k => h1.keep k (fun _ _ e => e))
  have H2 : Hid (∀ w9, Keep (fun _ => False) w w9 → Rec w9 107 shopC 3 (.slice a2 L.length c2) ss) := Lib.hid (fun w9 k => h2.keep k (fun _ _ e => e))
  have HI := Lib.hid hi; have HG := Lib.hid hg; have HS := Lib.hid hs
  clear h1 h2 hi hg hs
  go_enter Tryz.func78, Tryz.ntmps78
  go_wp2
  go_loopw [7, 17] (fun _ iv wr => EqR L.length w iv wr) (fun _ iv _ => L.length - (intOf iv).toNat)
  case atStart => exact ⟨0, by omega, rfl, Keep.refl _ _⟩
  case round =>
    obtain ⟨k, hk, rfl, hK⟩ := hrel.ex
    have HK := Lib.hid hK
    clear hrel hK
    by_cases hlt : k < L.length
    · have hd1 : decide (k < L.length) = true := by simpa using hlt
      obtain ⟨y, hy⟩ : ∃ y, ss[k]? = some y := ⟨_, List.getElem?_eq_getElem (by omega)⟩
      obtain ⟨m, dv⟩ := y
      have hm9 : L[k]? = some m := by rw [← HS.out, List.getElem?_map, hy]; rfl
      obtain ⟨ia, ic, hdv⟩ := HI.out _ (List.mem_of_getElem? hy)
      simp only at hdv
      subst hdv
      have hg9 := HG.out m (List.mem_of_getElem? hm9)
      have ht9 : (tillsL L)[k]? = some ⟨m.room, m.till⟩ := by unfold tillsL; rw [List.getElem?_map, hm9]; rfl
      obtain ⟨g1, o1, rfl, hg1⟩ := (H1.out wr HK.out).some ht9
      obtain ⟨g2, o2, rfl, hg2⟩ := (H2.out wr HK.out).some hy
      have HM1 := Lib.hid ((H1.out wr HK.out).range tiC_len k _ ht9)
      have HM2 := Lib.hid ((H2.out wr HK.out).range shopC_len k _ hy)
      have p0 : wr.cell? ⟨g1, o1 + k * 2, none⟩ = some (.int .i64 m.room) := by simpa using HM1.out 0 _ rfl
      have p1 : wr.cell? ⟨g1, o1 + k * 2 + 1, none⟩ = some (.int .i64 m.till) := by simpa using HM1.out 1 _ rfl
      have ka : Keep (fun _ => False) wr (wr.alloc (.cells #[.int .i64 m.room, .int .i64 m.till] 82)) := (Keep.refl _ wr).alloc _
      have q0 : (wr.alloc (.cells #[.int .i64 m.room, .int .i64 m.till] 82)).cell? ⟨g2, o2 + k * 3, none⟩ = some (.int .i64 m.room) := (ka.cell hg2 (fun e => e) _).trans (by simpa using HM2.out 0 _ rfl)
      have q1 : (wr.alloc (.cells #[.int .i64 m.room, .int .i64 m.till] 82)).cell? ⟨g2, o2 + k * 3 + 1, none⟩ = some (.int .i64 m.till) := (ka.cell hg2 (fun e => e) _).trans (by simpa using HM2.out 1 _ rfl)
      have q2 : (wr.alloc (.cells #[.int .i64 m.room, .int .i64 m.till] 82)).cell? ⟨g2, o2 + k * 3 + 2, none⟩ = some (.slice ia m.items.length ic) := (ka.cell hg2 (fun e => e) _).trans (by simpa using HM2.out 2 _ rfl)
      have HKA : Hid (Keep (fun _ => False) w ((wr.alloc (.cells #[.int .i64 m.room, .int .i64 m.till] 82)).alloc (.cells #[.int .i64 m.room, .int .i64 m.till, .slice ia m.items.length ic] 107))) := Lib.hid ((HK.out.trans ka (fun _ e => e.elim)).alloc _)
      clear hy hm9 ht9 HM1 HM2 ka
      go_wp2_with (go_at_call 79; (with_reducible refine (isTill_any rfl hg9.1 hg9.2).mono ?_); rintro e w9 ⟨rfl, k9⟩; have K9 := Lib.hid (HKA.out.trans k9 (fun _ e => e.elim)); clear k9)
      go_roundw
      case rel => exact ⟨k + 1, by omega, by go_num, K9.out⟩
      case measure => simp [intOf]; omega
    · have hd1 : decide (k < L.length) = false := by simpa using hlt
      go_wp2
      go_ret
      exact ⟨rfl, HK.out⟩

theorem placesNil_any {w : World} {a : Option Addr} {c g : Nat} {lb : Array Value} : Calls Tryz.prog 163 #[.slice a 0 c, .func (.func g) #[] lb] w fun e w' => e = .returned (.slice none 0 0) ∧ Keep (fun _ => False) w w' := by
  go_enter Tryz.func163, Tryz.ntmps163
  go_wp2
  go_loopw [5, 6, 10] (fun v _ iv wr => v = .slice none 0 0 ∧ iv = .int .i64 0 ∧ Keep (fun _ => False) w wr) (fun _ _ iv _ => 0)
  case atStart => exact ⟨rfl, rfl, Keep.refl _ _⟩
  case round =>
    obtain ⟨rfl, rfl, hK⟩ := hrel
    go_wp2
    go_ret
    exact ⟨rfl, hK⟩
theorem hereNil_any {w : World} {q : Nat} {a : Option Addr} {c : Nat} (hq : w.cell? ⟨q, 4, none⟩ = some (.slice a 0 c)) (r : Int) : Calls Tryz.prog 77 #[.pointer (some ⟨q, 0, none⟩), .int .i64 r] w fun e w' => e = .returned (.slice none 0 0) ∧ Keep (fun _ => False) w w' := by
  have hk : Keep (fun _ => False) w (w.alloc (.cells #[.int .i64 r] 3)) := (Keep.refl _ w).alloc _
  have q4 := (hk.cell (cell_lt hq) (fun e => e) _).trans hq
  have HK := Lib.hid hk
  clear hk
  go_enter Tryz.func77, Tryz.ntmps77
  go_wp2_with (go_at_call 163; (with_reducible refine placesNil_any.mono ?_); rintro e w9 ⟨rfl, k9⟩; have K9 := Lib.hid k9; clear k9)
  go_ret
  exact ⟨rfl, HK.out.trans K9.out (fun _ e => e.elim)⟩
set_option maxHeartbeats 4000000 in
theorem roomC6_any {w : World} {b q : Nat} {a : Option Addr} {c : Nat} (hb : w.cell? ⟨b, 0, none⟩ = some (.pointer (some ⟨q, 0, none⟩))) (hq : w.cell? ⟨q, 4, none⟩ = some (.slice a 0 c)) (x : RoomM) :
    Calls Tryz.prog 76 #[.agg (roomC x).toArray, .pointer (some ⟨b, 0, none⟩)] w fun e w' => e = .returned (.bool true) ∧ Keep (fun _ => False) w w' := by
  have hk : Keep (fun _ => False) w (w.alloc (.cells (roomC x).toArray 127)) := (Keep.refl _ w).alloc _
  have hbl := heap_alloc_new w (.cells (roomC x).toArray 127)
  have x0 : (w.alloc (.cells (roomC x).toArray 127)).cell? ⟨w.heap.size, 0, none⟩ = some (.int .i64 x.id) := (cell_of_row _ _ 0 _ _ _ hbl).trans rfl
  have b0 := (hk.cell (cell_lt hb) (fun e => e) _).trans hb
  have q4 := (hk.cell (cell_lt hq) (fun e => e) _).trans hq
  have HC := Lib.hid (hereNil_any q4 x.id)
  have HK := Lib.hid hk
  simp only [roomC] at HC HK b0 x0 ⊢
  clear hk hbl q4 hb hq
  go_enter Tryz.func76, Tryz.ntmps76
  go_wp2_with (go_at_call 77; (with_reducible refine HC.out.mono ?_); rintro e w9 ⟨rfl, k9⟩; have K9 := Lib.hid k9; clear k9)
  go_ret
  exact ⟨rfl, HK.out.trans K9.out (fun _ e => e.elim)⟩
theorem Tryz.en_roomC6 : ∀ args w, (callFunc 76 args).run Tryz.prog w = .ok (.enter 76 args) w := enters_of Tryz.func76 (by kernel_rfl) rfl
end Go.Proofs.YtheaghgockafmaaGreat.Wd
