/- Tables: the reference's places of rooms, kinds and mobiles. -/
import Derived.Test.YtcodbomgodkcmaaGreatDoorWdM
namespace Go.Proofs.YtcodbomgodkcmaaGreatDoor.Wd
open Go.RowKit Go.Proofs.YtcodbomgodkcmaaGreatDoor
set_option maxRecDepth 100000

structure ScR {α : Type} (p : α → Bool) (L : List α) (iv : Value) : Prop where
  ex : ∃ k : Nat, k ≤ L.length ∧ iv = .int .i64 (k : Int) ∧ ∀ (j : Nat) (a : α), j < k → L[j]? = some a → p a = false

theorem scan_next {α : Type} {p : α → Bool} {L : List α} {k : Nat} {a : α} (h : ∀ (j : Nat) (b : α), j < k → L[j]? = some b → p b = false) (hk : L[k]? = some a) (hp : p a = false) : ∀ (j : Nat) (b : α), j < k + 1 → L[j]? = some b → p b = false := fun j b hj hb => by
  by_cases e : j = k
  · subst e; rw [hk] at hb; cases hb; exact hp
  · exact h j b (by omega) hb

theorem scan_end {α : Type} {p : α → Bool} {L : List α} {k : Nat} (h : ∀ (j : Nat) (b : α), j < k → L[j]? = some b → p b = false) (hk : L.length ≤ k) : ∀ (j : Nat) (b : α), L[j]? = some b → p b = false := fun j b hb =>
  h j b (by have := (List.getElem?_eq_some_iff.1 hb).1; omega) hb

theorem roomC_len (x : RoomM) : (roomC x).length = 10 := rfl
theorem protoC_len (x : ProtoM) : (protoC x).length = 5 := rfl
theorem mobpC_len (x : MobPM) : (mobpC x).length = 7 := rfl
theorem recC_len (x : RecM × Value) : (recC x).length = 2 := rfl
theorem questC_len (x : QuestM) : (questC x).length = 5 := rfl
theorem shopC_len (x : ShopM × Value) : (shopC x).length = 3 := rfl

set_option maxHeartbeats 1000000 in
theorem refRoom_any {w : World} {d o : Nat} {D : DbM} {P : Nat → Prop} (h : DbAt P w d o D) (hl : D.rooms.length ≤ 1000000) (id : Int) : Calls Tryz.prog 85 #[.pointer (some ⟨d, o, none⟩), .int .i64 id] w fun e w' => e = .returned (.int .i64 (findI (fun r => r.id == id) D.rooms)) ∧ w = w' := by
  obtain ⟨v1, v2, v3, v4, v5, v6, rr, ss, hd, hr, h1, _⟩ := h.ex
  have H1 := Lib.hid h1
  have p1 : w.cell? ⟨d, o, none⟩ = some v1 := hr 0 _ rfl
  obtain ⟨a1, c1, rfl, hc1, hc2⟩ := h1.slice
  unfold maxLen at hc2
  obtain ⟨L, hL⟩ : ∃ L, L = D.rooms := ⟨_, rfl⟩
  rw [← hL] at H1 p1 hc1 hl ⊢
  clear h hr h1 hL
  go_enter Tryz.func85, Tryz.ntmps85
  go_wp2
  go_loop [5] (fun iv => ScR (fun r : RoomM => r.id == id) L iv) (fun iv => L.length - (intOf iv).toNat)
  case atStart => exact ⟨0, by omega, rfl, fun j a hj => by omega⟩
  case round =>
    obtain ⟨k, hk, rfl, hall⟩ := hrel.ex
    have HA := Lib.hid hall
    clear hall hrel
    by_cases hlt : k < L.length
    · have hd1 : decide (k < L.length) = true := by simpa using hlt
      obtain ⟨x, hx⟩ : ∃ x, L[k]? = some x := ⟨_, List.getElem?_eq_getElem hlt⟩
      obtain ⟨g, off, rfl, _⟩ := H1.out.some hx
      have q1 : w.cell? ⟨g, off + k * 10, none⟩ = some (.int .i64 x.id) := H1.out.cell roomC_len k 0 x hx (by omega)
      have HX := Lib.hid hx
      clear hx
      by_cases he : x.id = id
      · have hb : (x.id == id) = true := by simpa using he
        have HF := Lib.hid (findI_at (p := fun r : RoomM => r.id == id) HA.out HX.out hb)
        clear he
        go_wp2
        go_ret
        exact ⟨by rw [HF.out]; rfl, rfl⟩
      · have hb : (x.id == id) = false := by simpa using he
        have HN := Lib.hid (scan_next (p := fun r : RoomM => r.id == id) HA.out HX.out hb)
        clear he
        go_wp2
        go_round
        case rel => exact ⟨k + 1, by omega, by go_num, HN.out⟩
        case measure => simp [intOf]; omega
    · have hd1 : decide (k < L.length) = false := by rw [decide_eq_false_iff_not]; omega
      have HF := Lib.hid (findI_none (scan_end HA.out (by omega)))
      go_wp2
      go_ret
      exact ⟨by rw [HF.out]; rfl, rfl⟩

set_option maxHeartbeats 1000000 in
theorem refProto_any {w : World} {d o : Nat} {D : DbM} {P : Nat → Prop} (h : DbAt P w d o D) (hl : D.protos.length ≤ 1000000) (id : Int) : Calls Tryz.prog 86 #[.pointer (some ⟨d, o, none⟩), .int .i64 id] w fun e w' => e = .returned (.int .i64 (findI (fun r => r.id == id) D.protos)) ∧ w = w' := by
  obtain ⟨v1, v2, v3, v4, v5, v6, rr, ss, hd, hr, _, h1, _⟩ := h.ex
  have H1 := Lib.hid h1
  have p1 : w.cell? ⟨d, o + 1, none⟩ = some v2 := hr 1 _ rfl
  obtain ⟨a1, c1, rfl, hc1, hc2⟩ := h1.slice
  unfold maxLen at hc2
  obtain ⟨L, hL⟩ : ∃ L, L = D.protos := ⟨_, rfl⟩
  rw [← hL] at H1 p1 hc1 hl ⊢
  clear h hr h1 hL
  go_enter Tryz.func86, Tryz.ntmps86
  go_wp2
  go_loop [5] (fun iv => ScR (fun r : ProtoM => r.id == id) L iv) (fun iv => L.length - (intOf iv).toNat)
  case atStart => exact ⟨0, by omega, rfl, fun j a hj => by omega⟩
  case round =>
    obtain ⟨k, hk, rfl, hall⟩ := hrel.ex
    have HA := Lib.hid hall
    clear hall hrel
    by_cases hlt : k < L.length
    · have hd1 : decide (k < L.length) = true := by simpa using hlt
      obtain ⟨x, hx⟩ : ∃ x, L[k]? = some x := ⟨_, List.getElem?_eq_getElem hlt⟩
      obtain ⟨g, off, rfl, _⟩ := H1.out.some hx
      have q1 : w.cell? ⟨g, off + k * 5, none⟩ = some (.int .i64 x.id) := H1.out.cell protoC_len k 0 x hx (by omega)
      have HX := Lib.hid hx
      clear hx
      by_cases he : x.id = id
      · have hb : (x.id == id) = true := by simpa using he
        have HF := Lib.hid (findI_at (p := fun r : ProtoM => r.id == id) HA.out HX.out hb)
        clear he
        go_wp2
        go_ret
        exact ⟨by rw [HF.out]; rfl, rfl⟩
      · have hb : (x.id == id) = false := by simpa using he
        have HN := Lib.hid (scan_next (p := fun r : ProtoM => r.id == id) HA.out HX.out hb)
        clear he
        go_wp2
        go_round
        case rel => exact ⟨k + 1, by omega, by go_num, HN.out⟩
        case measure => simp [intOf]; omega
    · have hd1 : decide (k < L.length) = false := by rw [decide_eq_false_iff_not]; omega
      have HF := Lib.hid (findI_none (scan_end HA.out (by omega)))
      go_wp2
      go_ret
      exact ⟨by rw [HF.out]; rfl, rfl⟩

end Go.Proofs.YtcodbomgodkcmaaGreatDoor.Wd
