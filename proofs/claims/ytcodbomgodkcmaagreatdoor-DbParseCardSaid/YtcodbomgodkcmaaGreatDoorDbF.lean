/- World files: is all that is named there; Check (the reference's; made by tools/gendt.py). -/
import Derived.Test.YtcodbomgodkcmaaGreatDoorDbD
namespace Go.Proofs.YtcodbomgodkcmaaGreatDoor.Wd
open Go.RowKit Go.Maps Go.Proofs.YtcodbomgodkcmaaGreatDoor Go.Proofs.YtcodbomgodkcmaaGreatDoor.Lin
set_option maxRecDepth 100000

theorem exF_cellL (x : RoomM) {j : Nat} (h : j < 6) : (roomC x)[4 + j]? = some (.int .i64 (exF x j)) := by
  match j, h with
  | 0, _ => rfl
  | 1, _ => rfl
  | 2, _ => rfl
  | 3, _ => rfl
  | 4, _ => rfl
  | 5, _ => rfl
  | j + 6, h => omega
/-- The front of k is as p says. -/
structure FrR {α : Type} (p : α → Prop) (L : List α) (w0 : World) (iv : Value) (wr : World) : Prop where
  ex : ∃ k : Nat, k ≤ L.length ∧ iv = .int .i64 (k : Int) ∧ (∀ (j : Nat) (x : α), j < k → L[j]? = some x → p x) ∧ Keep (fun _ => False) w0 wr
theorem FrTo.next {α : Type} {p : α → Prop} {L : List α} {k : Nat} {x : α} (h : ∀ (j : Nat) (x : α), j < k → L[j]? = some x → p x) (hx : L[k]? = some x) (hp : p x) : ∀ (j : Nat) (y : α), j < k + 1 → L[j]? = some y → p y := fun j y hj hy => by
  by_cases e : j = k
  · subst e; rw [hx] at hy; cases hy; exact hp
  · exact h j y (by omega) hy
structure ExT (D : DbM) (x : RoomM) (w0 : World) (jv : Value) (wr : World) : Prop where
  ex : ∃ j : Nat, j ≤ 6 ∧ jv = .int .i64 (j : Int) ∧ (∀ i, i < j → exitOk D (exF x i) = true) ∧ Keep (fun _ => False) w0 wr

def pRoom (D : DbM) (r : RoomM) : Prop := ∀ i, i < 6 → exitOk D (exF r i) = true
def pMob (D : DbM) (m : MobPM) : Prop := hasRoom D m.home = true
def pRec (D : DbM) (r : RecM) : Prop := hasProto D r.out = true ∧ ∀ n ∈ r.needs, hasProto D n = true
def pQuest (D : DbM) (q : QuestM) : Prop := hasProto D q.item = true ∧ (q.reward = 0 ∨ hasProto D q.reward = true)
def pShop (D : DbM) (s : ShopM) : Prop := (∃ (k : Nat) (r : RoomM), findI (fun r : RoomM => r.id == s.room) D.rooms = (k : Int) ∧ D.rooms[k]? = some r ∧ r.kind = 1) ∧ ∀ n ∈ s.items, hasProto D n = true
theorem there_iff (D : DbM) : ThereOk D ↔ (∀ x ∈ D.rooms, pRoom D x) ∧ (∀ x ∈ D.mobs, pMob D x) ∧ (∀ x ∈ D.recs, pRec D x) ∧ (∀ x ∈ D.quests, pQuest D x) ∧ (∀ x ∈ D.shops, pShop D x) := by
  unfold ThereOk
  refine and_congr ⟨fun h x hx => ?_, fun h x hx => ?_⟩ Iff.rfl
  · obtain ⟨h0, h1, h2, h3, h4, h5⟩ := h x hx
    intro i hi
    match i, hi with
    | 0, _ => exact h0
    | 1, _ => exact h1
    | 2, _ => exact h2
    | 3, _ => exact h3
    | 4, _ => exact h4
    | 5, _ => exact h5
    | i + 6, h => omega
  · exact ⟨h x hx 0 (by omega), h x hx 1 (by omega), h x hx 2 (by omega), h x hx 3 (by omega), h x hx 4 (by omega), h x hx 5 (by omega)⟩

/-- Tables of no more records and letters than this are read without overflow. -/
structure DbSz (D : DbM) : Prop where
  rooms : D.rooms.length ≤ 1000000
  protos : D.protos.length ≤ 1000000
  mobs : D.mobs.length ≤ 1000000
  recs : D.recs.length ≤ 1000000
  quests : D.quests.length ≤ 1000000
  shops : D.shops.length ≤ 1000000
  rname : ∀ r ∈ D.rooms, r.name.size ≤ 1000000
  pname : ∀ r ∈ D.protos, r.name.size ≤ 1000000
  mname : ∀ r ∈ D.mobs, r.name.size ≤ 1000000
  needs : ∀ r ∈ D.recs, r.needs.length ≤ 1000000
  items : ∀ r ∈ D.shops, r.items.length ≤ 1000000

set_option maxHeartbeats 16000000 in
theorem refThere_any {w : World} {d o : Nat} {D : DbM} {P : Nat → Prop} (h : DbAt P w d o D) (hs : DbSz D) :
    Calls Tryz.prog 32 #[.pointer (some ⟨d, o, none⟩)] w fun e w' => ∃ b, e = .returned (.bool b) ∧ (b = true ↔ ThereOk D) ∧ Keep (fun _ => False) w w' := by
  rw [there_iff]
  have CR : Hid (∀ (w9 : World), Keep (fun _ => False) w w9 → ∀ id : Int, Calls Tryz.prog 85 #[.pointer (some ⟨d, o, none⟩), .int .i64 id] w9 fun e w' => e = .returned (.int .i64 (findI (fun r : RoomM => r.id == id) D.rooms)) ∧ w9 = w') := Lib.hid (fun w9 k9 id => refRoom_any (h.keep k9 (fun _ _ h => h)) hs.rooms id)
  have CP : Hid (∀ (w9 : World), Keep (fun _ => False) w w9 → ∀ id : Int, Calls Tryz.prog 86 #[.pointer (some ⟨d, o, none⟩), .int .i64 id] w9 fun e w' => e = .returned (.int .i64 (findI (fun r : ProtoM => r.id == id) D.protos)) ∧ w9 = w') := Lib.hid (fun w9 k9 id => refProto_any (h.keep k9 (fun _ _ h => h)) hs.protos id)
  obtain ⟨v1, v2, v3, v4, v5, v6, rr, ss, hd, hr, h1, _, h3, ⟨h4, hrr, hri⟩, h5, ⟨h6, hss, hsi⟩, _⟩ := h.ex
  have HProoms : Hid (∀ w9, Keep (fun _ => False) w w9 → w9.cell? ⟨d, o, none⟩ = some v1) := Lib.hid (fun w9 k => (k.cell hd (fun h => h) _).trans (hr 0 _ rfl))
  have H1rooms := Lib.hid h1
  obtain ⟨arooms, caprooms, rfl, hcrooms, hccrooms⟩ := h1.slice
  have HPmobs : Hid (∀ w9, Keep (fun _ => False) w w9 → w9.cell? ⟨d, o + 2, none⟩ = some v3) := Lib.hid (fun w9 k => (k.cell hd (fun h => h) _).trans (hr 2 _ rfl))
  have H1mobs := Lib.hid h3
  obtain ⟨amobs, capmobs, rfl, hcmobs, hccmobs⟩ := h3.slice
  have HPrecs : Hid (∀ w9, Keep (fun _ => False) w w9 → w9.cell? ⟨d, o + 3, none⟩ = some v4) := Lib.hid (fun w9 k => (k.cell hd (fun h => h) _).trans (hr 3 _ rfl))
  have H1recs := Lib.hid h4
  obtain ⟨arecs, caprecs, rfl, hcrecs, hccrecs⟩ := h4.slice
  have HPquests : Hid (∀ w9, Keep (fun _ => False) w w9 → w9.cell? ⟨d, o + 4, none⟩ = some v5) := Lib.hid (fun w9 k => (k.cell hd (fun h => h) _).trans (hr 4 _ rfl))
  have H1quests := Lib.hid h5
  obtain ⟨aquests, capquests, rfl, hcquests, hccquests⟩ := h5.slice
  have HPshops : Hid (∀ w9, Keep (fun _ => False) w w9 → w9.cell? ⟨d, o + 5, none⟩ = some v6) := Lib.hid (fun w9 k => (k.cell hd (fun h => h) _).trans (hr 5 _ rfl))
  have H1shops := Lib.hid h6
  obtain ⟨ashops, capshops, rfl, hcshops, hccshops⟩ := h6.slice
  unfold maxLen at hccrooms hccmobs hccrecs hccquests hccshops
  obtain ⟨LLrecs, hLLA⟩ : ∃ L, L = rr := ⟨_, rfl⟩
  obtain ⟨LLshops, hLLC⟩ : ∃ L, L = ss := ⟨_, rfl⟩
  rw [← hLLA] at H1recs HPrecs hcrecs hri hrr
  rw [← hLLC] at H1shops HPshops hcshops hsi hss
  have HINTrecs := Lib.hid hri
  have HINTshops := Lib.hid hsi
  obtain ⟨s1, s2, s3, s4, s5, s6, s7, s8, s9, s10, s11⟩ := hs
  obtain ⟨Lrooms, hLR⟩ : ∃ L, L = D.rooms := ⟨_, rfl⟩
  obtain ⟨Lmobs, hLM⟩ : ∃ L, L = D.mobs := ⟨_, rfl⟩
  obtain ⟨Lrecs, hLA⟩ : ∃ L, L = D.recs := ⟨_, rfl⟩
  obtain ⟨Lquests, hLB⟩ : ∃ L, L = D.quests := ⟨_, rfl⟩
  obtain ⟨Lshops, hLC⟩ : ∃ L, L = D.shops := ⟨_, rfl⟩
  rw [← hLR] at H1rooms HProoms hcrooms s1 ⊢
  rw [← hLM] at H1mobs HPmobs hcmobs s3 ⊢
  rw [← hLA] at hrr s4 s10 ⊢
  rw [← hLB] at H1quests HPquests hcquests s5 ⊢
  rw [← hLC] at hss s6 s11 ⊢
  have HLR := Lib.hid hLR
  have HLLrecs := Lib.hid hrr
  have HLLshops := Lib.hid hss
  have eA : LLrecs.length = Lrecs.length := by rw [← hrr, List.length_map]
  have eC : LLshops.length = Lshops.length := by rw [← hss, List.length_map]
  rw [eA] at HPrecs hcrecs
  rw [eC] at HPshops hcshops
  have HNLrecs : Hid (∀ x ∈ LLrecs, x.1.needs.length ≤ 1000000) := Lib.hid (fun x hx => s10 x.1 (by rw [← hrr]; exact List.mem_map_of_mem hx))
  have HNLshops : Hid (∀ x ∈ LLshops, x.1.items.length ≤ 1000000) := Lib.hid (fun x hx => s11 x.1 (by rw [← hss]; exact List.mem_map_of_mem hx))
  rw [eA] at H1recs
  rw [eC] at H1shops
  obtain ⟨Zq, HZq', HZSq'⟩ := zquests
  have HZq := Lib.hid HZq'
  have HZSq := HZSq'.out
  have HBAD : Hid (∀ (w9 : World) (k9 : Keep (fun _ => False) w w9) (_ : ¬ ((∀ x ∈ Lrooms, pRoom D x) ∧ (∀ x ∈ Lmobs, pMob D x) ∧ (∀ x ∈ Lrecs, pRec D x) ∧ (∀ x ∈ Lquests, pQuest D x) ∧ (∀ x ∈ Lshops, pShop D x))), ∃ b, Ending.returned (.bool false) = .returned (.bool b) ∧ (b = true ↔ (∀ x ∈ Lrooms, pRoom D x) ∧ (∀ x ∈ Lmobs, pMob D x) ∧ (∀ x ∈ Lrecs, pRec D x) ∧ (∀ x ∈ Lquests, pQuest D x) ∧ (∀ x ∈ Lshops, pShop D x)) ∧ Keep (fun _ => False) w w9) := Lib.hid (fun w9 k9 hn => ⟨false, rfl, ⟨fun (h0 : false = true) => (by cases h0), fun h0 => absurd h0 hn⟩, k9⟩)
  have p0 := HProoms.out w (Keep.refl _ _)
  clear h hr h1 h3 h4 h5 h6 hLR hLM hLA hLB hLC hLLA hLLC HZq' HZSq' hrr hss hri hsi eA eC s7 s8 s9 s10 s11
  go_enter Tryz.func32, Tryz.ntmps32
  go_wp2
  go_loopw [3] (fun iv wr => FrR (pRoom D) Lrooms w iv wr) (fun iv _ => Lrooms.length - (intOf iv).toNat)
  case atStart => exact ⟨0, by omega, rfl, fun j x hj => by omega, Keep.refl _ _⟩
  case round =>
    obtain ⟨k, hk, rfl, hall, hKX⟩ := hrel.ex
    have HA := Lib.hid hall; have HKX := Lib.hid hKX
    clear hall hrel hKX
    have p2 := HProoms.out wr HKX.out
    by_cases hlt : k < Lrooms.length
    · have hd1 : decide (k < Lrooms.length) = true := by simpa using hlt
      obtain ⟨x, hx⟩ : ∃ x, Lrooms[k]? = some x := ⟨_, List.getElem?_eq_getElem hlt⟩
      obtain ⟨g, off, rfl, hg⟩ := H1rooms.out.some hx
      have HRG : Hid (∀ w9, Keep (fun _ => False) w w9 → w9.rangeAt g (off + k * 10) (roomC x)) := Lib.hid (fun w9 k9 => range_keep (H1rooms.out.range roomC_len k x hx) k9 hg (fun h => h))
      have HX := Lib.hid hx
      clear hx
      go_wp2
      go_loopw [4] (fun jv wq => ExT D x w jv wq) (fun jv _ => 6 - (intOf jv).toNat)
      case atStart => exact ⟨0, by omega, rfl, fun i hi => by omega, HKX.out⟩
      case round =>
        obtain ⟨j, hj, rfl, hall, hKX⟩ := hrel.ex
        have HJ := Lib.hid hall; have HKX := Lib.hid hKX
        clear hall hrel hKX
        have p2 := HProoms.out wr HKX.out
        by_cases hj6 : j < 6
        · have dj : decide (j < 6) = true := by simpa using hj6
          have dj2 : decide ((j : Int) < 6) = true := by rw [decide_eq_true_eq]; omega
          obtain ⟨n, hn⟩ : ∃ n, n = exF x j := ⟨_, rfl⟩
          have cj : wr.cell? ⟨g, off + k * 10 + (4 + j), none⟩ = some (.int .i64 n) := by rw [hn]; exact HRG.out wr HKX.out (4 + j) _ (exF_cellL x hj6)
          have cj2 : wr.cell? ⟨g, off + k * 10 + 4 + j, none⟩ = some (.int .i64 n) := by rw [Nat.add_assoc]; exact cj
          have HNE := Lib.hid hn
          clear hn
          by_cases hn0 : n = 0
          · have g1 : (n != 0) = false := by rw [hn0]; rfl
            have g2 : (n == 0) = true := by rw [hn0]; rfl
            have HJN : Hid (∀ i, i < j + 1 → exitOk D (exF x i) = true) := Lib.hid (fun i hi => by
              by_cases e : i = j
              · subst e; rw [← HNE.out]; unfold exitOk; rw [g2]; rfl
              · exact HJ.out i (by omega))
            clear hn0
            go_wp2
            go_roundw
            case rel => exact ⟨j + 1, by omega, by go_num, HJN.out, HKX.out⟩
            case measure => simp [intOf]; omega
          · have g1 : (n != 0) = true := by simpa using hn0
            have g2 : (n == 0) = false := by simpa using hn0
            clear hn0
            obtain ⟨zn, hzn⟩ : ∃ z, z = findI (fun r : RoomM => r.id == n) D.rooms := ⟨_, rfl⟩
            have Kzn : Hid (∀ w9, Keep (fun _ => False) w w9 → Calls Tryz.prog 85 #[.pointer (some ⟨d, o, none⟩), .int .i64 (n)] w9 fun e w' => e = .returned (.int .i64 zn) ∧ w9 = w') := Lib.hid (fun w9 k9 => by rw [hzn]; exact CR.out w9 k9 _)
            by_cases bzn : zn < 0
            · have dzn : decide (zn < 0) = true := by rw [decide_eq_true_eq]; exact bzn
              have Fzn : Hid (hasRoom D (n) = false) := Lib.hid (by unfold hasRoom; rw [← hzn, decide_eq_false_iff_not]; omega)
              clear hzn bzn
              go_wp2_with (first | (go_at_call 85; (with_reducible refine (Kzn.out _ HKX.out).mono ?_); rintro e w' ⟨rfl, rfl⟩))
              go_ret
              exact HBAD.out _ HKX.out (fun h => by have := (h.1 x (List.mem_of_getElem? HX.out)) j hj6; rw [← HNE.out] at this; unfold exitOk at this; rw [g2, Fzn.out] at this; cases this)
            · have dzn : decide (zn < 0) = false := by rw [decide_eq_false_iff_not]; exact bzn
              have Fzn : Hid (hasRoom D (n) = true) := Lib.hid (by unfold hasRoom; rw [← hzn, decide_eq_true_eq]; omega)
              clear hzn bzn
              have HJN : Hid (∀ i, i < j + 1 → exitOk D (exF x i) = true) := Lib.hid (fun i hi => by
                by_cases e : i = j
                · subst e; rw [← HNE.out]; unfold exitOk; rw [g2, Fzn.out]; rfl
                · exact HJ.out i (by omega))
              go_wp2_with (first | (go_at_call 85; (with_reducible refine (Kzn.out _ HKX.out).mono ?_); rintro e w' ⟨rfl, rfl⟩))
              go_roundw
              case rel => exact ⟨j + 1, by omega, by go_num, HJN.out, HKX.out⟩
              case measure => simp [intOf]; omega
        · have dj : decide (j < 6) = false := by rw [decide_eq_false_iff_not]; omega
          have dj2 : decide ((j : Int) < 6) = false := by rw [decide_eq_false_iff_not]; omega
          have HNX := Lib.hid (FrTo.next HA.out HX.out (fun i hi => HJ.out i (by omega)))
          go_wp2
          go_roundw
          case rel => exact ⟨k + 1, by omega, by go_num, HNX.out, HKX.out⟩
          case measure => simp [intOf]; omega
    · have hd1 : decide (k < Lrooms.length) = false := by rw [decide_eq_false_iff_not]; omega
      have HRrooms : Hid (∀ x ∈ Lrooms, pRoom D x) := Lib.hid (fun x hx => by
        obtain ⟨j, hj, rfl⟩ := List.mem_iff_getElem.1 hx
        exact HA.out j _ (by omega) (List.getElem?_eq_getElem hj))
      clear HA hlt hk
      have p3 := HPmobs.out wr HKX.out
      go_wp2
      go_loopw [5] (fun iv wr => FrR (pMob D) Lmobs w iv wr) (fun iv _ => Lmobs.length - (intOf iv).toNat)
      case atStart => exact ⟨0, by omega, rfl, fun j x hj => by omega, HKX.out⟩
      case round =>
        obtain ⟨k, hk, rfl, hall, hKX⟩ := hrel.ex
        have HA := Lib.hid hall; have HKX := Lib.hid hKX
        clear hall hrel hKX
        have p2 := HPmobs.out wr HKX.out
        by_cases hlt : k < Lmobs.length
        · have hd1 : decide (k < Lmobs.length) = true := by simpa using hlt
          obtain ⟨x, hx⟩ : ∃ x, Lmobs[k]? = some x := ⟨_, List.getElem?_eq_getElem hlt⟩
          obtain ⟨g, off, rfl, hg⟩ := H1mobs.out.some hx
          have HRG : Hid (∀ w9, Keep (fun _ => False) w w9 → w9.rangeAt g (off + k * 7) (mobpC x)) := Lib.hid (fun w9 k9 => range_keep (H1mobs.out.range mobpC_len k x hx) k9 hg (fun h => h))
          have HX := Lib.hid hx
          clear hx
          have q2 : wr.cell? ⟨g, off + k * 7 + 2, none⟩ = some (.int .i64 x.home) := HRG.out wr HKX.out 2 _ rfl
          obtain ⟨zn, hzn⟩ : ∃ z, z = findI (fun r : RoomM => r.id == x.home) D.rooms := ⟨_, rfl⟩
          have Kzn : Hid (∀ w9, Keep (fun _ => False) w w9 → Calls Tryz.prog 85 #[.pointer (some ⟨d, o, none⟩), .int .i64 (x.home)] w9 fun e w' => e = .returned (.int .i64 zn) ∧ w9 = w') := Lib.hid (fun w9 k9 => by rw [hzn]; exact CR.out w9 k9 _)
          by_cases bzn : zn < 0
          · have dzn : decide (zn < 0) = true := by rw [decide_eq_true_eq]; exact bzn
            have Fzn : Hid (hasRoom D (x.home) = false) := Lib.hid (by unfold hasRoom; rw [← hzn, decide_eq_false_iff_not]; omega)
            clear hzn bzn
            go_wp2_with (first | (go_at_call 85; (with_reducible refine (Kzn.out _ HKX.out).mono ?_); rintro e w' ⟨rfl, rfl⟩))
            go_ret
            exact HBAD.out _ HKX.out (fun h => by have := h.2.1 x (List.mem_of_getElem? HX.out); unfold pMob at this; rw [Fzn.out] at this; cases this)
          · have dzn : decide (zn < 0) = false := by rw [decide_eq_false_iff_not]; exact bzn
            have Fzn : Hid (hasRoom D (x.home) = true) := Lib.hid (by unfold hasRoom; rw [← hzn, decide_eq_true_eq]; omega)
            clear hzn bzn
            have HNX := Lib.hid (FrTo.next HA.out HX.out Fzn.out)
            go_wp2_with (first | (go_at_call 85; (with_reducible refine (Kzn.out _ HKX.out).mono ?_); rintro e w' ⟨rfl, rfl⟩))
            go_roundw
            case rel => exact ⟨k + 1, by omega, by go_num, HNX.out, HKX.out⟩
            case measure => simp [intOf]; omega
        · have hd1 : decide (k < Lmobs.length) = false := by rw [decide_eq_false_iff_not]; omega
          have HRmobs : Hid (∀ x ∈ Lmobs, pMob D x) := Lib.hid (fun x hx => by
            obtain ⟨j, hj, rfl⟩ := List.mem_iff_getElem.1 hx
            exact HA.out j _ (by omega) (List.getElem?_eq_getElem hj))
          clear HA hlt hk
          have p3 := HPrecs.out wr HKX.out
          go_wp2
          go_loopw [6] (fun iv wr => FrR (pRec D) Lrecs w iv wr) (fun iv _ => Lrecs.length - (intOf iv).toNat)
          case atStart => exact ⟨0, by omega, rfl, fun j x hj => by omega, HKX.out⟩
          case round =>
            obtain ⟨k, hk, rfl, hall, hKX⟩ := hrel.ex
            have HA := Lib.hid hall; have HKX := Lib.hid hKX
            clear hall hrel hKX
            have p2 := HPrecs.out wr HKX.out
            by_cases hlt : k < Lrecs.length
            · have hd1 : decide (k < Lrecs.length) = true := by simpa using hlt
              obtain ⟨⟨x, xv⟩, hx⟩ : ∃ y, LLrecs[k]? = some y := ⟨_, List.getElem?_eq_getElem (by rw [← HLLrecs.out, List.length_map] at hlt; exact hlt)⟩
              obtain ⟨g, off, rfl, hg⟩ := H1recs.out.some hx
              have HRG : Hid (∀ w9, Keep (fun _ => False) w w9 → w9.rangeAt g (off + k * 2) (recC (x, xv))) := Lib.hid (fun w9 k9 => range_keep (H1recs.out.range recC_len k (x, xv) hx) k9 hg (fun h => h))
              have HX : Hid (Lrecs[k]? = some x) := Lib.hid (by rw [← HLLrecs.out, List.getElem?_map, hx]; rfl)
              obtain ⟨xa, xc, hxv, hxc, hxc2⟩ : ∃ xa xc, xv = .slice xa x.needs.length xc ∧ x.needs.length ≤ xc ∧ xc ≤ maxLen := (HINTrecs.out _ (List.mem_of_getElem? hx)).slice
              subst hxv
              unfold maxLen at hxc2
              have HIN := Lib.hid (HINTrecs.out _ (List.mem_of_getElem? hx))
              have hxl : x.needs.length ≤ 1000000 := HNLrecs.out _ (List.mem_of_getElem? hx)
              clear hx
              have q0 : wr.cell? ⟨g, off + k * 2, none⟩ = some (.int .i64 x.out) := HRG.out wr HKX.out 0 _ rfl
              obtain ⟨zo, hzo⟩ : ∃ z, z = findI (fun r : ProtoM => r.id == x.out) D.protos := ⟨_, rfl⟩
              have Kzo : Hid (∀ w9, Keep (fun _ => False) w w9 → Calls Tryz.prog 86 #[.pointer (some ⟨d, o, none⟩), .int .i64 (x.out)] w9 fun e w' => e = .returned (.int .i64 zo) ∧ w9 = w') := Lib.hid (fun w9 k9 => by rw [hzo]; exact CP.out w9 k9 _)
              by_cases bzo : zo < 0
              · have dzo : decide (zo < 0) = true := by rw [decide_eq_true_eq]; exact bzo
                have Fzo : Hid (hasProto D (x.out) = false) := Lib.hid (by unfold hasProto; rw [← hzo, decide_eq_false_iff_not]; omega)
                clear hzo bzo
                go_wp2_with (first | (go_at_call 86; (with_reducible refine (Kzo.out _ HKX.out).mono ?_); rintro e w' ⟨rfl, rfl⟩))
                go_ret
                exact HBAD.out _ HKX.out (fun h => by have := (h.2.2.1 x (List.mem_of_getElem? HX.out)).1; rw [Fzo.out] at this; cases this)
              · have dzo : decide (zo < 0) = false := by rw [decide_eq_false_iff_not]; exact bzo
                have Fzo : Hid (hasProto D (x.out) = true) := Lib.hid (by unfold hasProto; rw [← hzo, decide_eq_true_eq]; omega)
                clear hzo bzo
                go_wp2_with (first | (go_at_call 86; (with_reducible refine (Kzo.out _ HKX.out).mono ?_); rintro e w' ⟨rfl, rfl⟩))
                clear q0
                go_loopw [7] (fun jv wq => FrR (fun m => hasProto D m = true) x.needs w jv wq) (fun jv _ => x.needs.length - (intOf jv).toNat)
                case atStart => exact ⟨0, by omega, rfl, fun j x hj => by omega, HKX.out⟩
                case round =>
                  obtain ⟨j, hj, rfl, hall, hKX⟩ := hrel.ex
                  have HJ := Lib.hid hall; have HKX := Lib.hid hKX
                  clear hall hrel hKX
                  have p2 := HPrecs.out wr HKX.out
                  have cs : wr.cell? ⟨g, off + k * 2 + 1, none⟩ = some (.slice xa x.needs.length xc) := HRG.out wr HKX.out 1 _ rfl
                  by_cases hjl : j < x.needs.length
                  · have dj : decide (j < x.needs.length) = true := by simpa using hjl
                    obtain ⟨n, hn⟩ : ∃ n, x.needs[j]? = some n := ⟨_, List.getElem?_eq_getElem hjl⟩
                    obtain ⟨_, ya, yc, hyv, _, _, hq⟩ := (HIN.out.keep HKX.out (fun _ _ _ h => h)).1
                    simp only [Value.slice.injEq] at hyv
                    obtain ⟨rfl, _, rfl⟩ := hyv
                    obtain ⟨xg, xo, rfl, _, hq⟩ := hq.resolve_left (by omega)
                    have cn : wr.cell? ⟨xg, xo + j, none⟩ = some (.int .i64 n) := hq j _ (icells_get hn)
                    have HNN := Lib.hid hn
                    clear hq hn
                    obtain ⟨zn, hzn⟩ : ∃ z, z = findI (fun r : ProtoM => r.id == n) D.protos := ⟨_, rfl⟩
                    have Kzn : Hid (∀ w9, Keep (fun _ => False) w w9 → Calls Tryz.prog 86 #[.pointer (some ⟨d, o, none⟩), .int .i64 (n)] w9 fun e w' => e = .returned (.int .i64 zn) ∧ w9 = w') := Lib.hid (fun w9 k9 => by rw [hzn]; exact CP.out w9 k9 _)
                    by_cases bzn : zn < 0
                    · have dzn : decide (zn < 0) = true := by rw [decide_eq_true_eq]; exact bzn
                      have Fzn : Hid (hasProto D (n) = false) := Lib.hid (by unfold hasProto; rw [← hzn, decide_eq_false_iff_not]; omega)
                      clear hzn bzn
                      go_wp2_with (first | (go_at_call 86; (with_reducible refine (Kzn.out _ HKX.out).mono ?_); rintro e w' ⟨rfl, rfl⟩))
                      go_ret
                      exact HBAD.out _ HKX.out (fun h => by have := (h.2.2.1 x (List.mem_of_getElem? HX.out)).2 n (List.mem_of_getElem? HNN.out); rw [Fzn.out] at this; cases this)
                    · have dzn : decide (zn < 0) = false := by rw [decide_eq_false_iff_not]; exact bzn
                      have Fzn : Hid (hasProto D (n) = true) := Lib.hid (by unfold hasProto; rw [← hzn, decide_eq_true_eq]; omega)
                      clear hzn bzn
                      have HJN : Hid (∀ i m, i < j + 1 → x.needs[i]? = some m → hasProto D m = true) := Lib.hid (FrTo.next HJ.out HNN.out Fzn.out)
                      go_wp2_with (first | (go_at_call 86; (with_reducible refine (Kzn.out _ HKX.out).mono ?_); rintro e w' ⟨rfl, rfl⟩))
                      go_roundw
                      case rel => exact ⟨j + 1, by omega, by go_num, HJN.out, HKX.out⟩
                      case measure => simp [intOf]; omega
                  · have dj : decide (j < x.needs.length) = false := by rw [decide_eq_false_iff_not]; omega
                    have HAL : Hid (∀ m ∈ x.needs, hasProto D m = true) := Lib.hid (fun m hm => by
                      obtain ⟨i, hi, rfl⟩ := List.mem_iff_getElem.1 hm
                      exact HJ.out i _ (by omega) (List.getElem?_eq_getElem hi))
                    have HNX := Lib.hid (FrTo.next HA.out HX.out ⟨Fzo.out, HAL.out⟩)
                    go_wp2
                    go_roundw
                    case rel => exact ⟨k + 1, by omega, by go_num, HNX.out, HKX.out⟩
                    case measure => simp [intOf]; omega
            · have hd1 : decide (k < Lrecs.length) = false := by rw [decide_eq_false_iff_not]; omega
              have HRrecs : Hid (∀ x ∈ Lrecs, pRec D x) := Lib.hid (fun x hx => by
                obtain ⟨j, hj, rfl⟩ := List.mem_iff_getElem.1 hx
                exact HA.out j _ (by omega) (List.getElem?_eq_getElem hj))
              clear HA hlt hk
              have p3 := HPquests.out wr HKX.out
              go_wp2
              go_loopw [8] (fun iv wr => FrR (pQuest D) Lquests w iv wr) (fun iv _ => Lquests.length - (intOf iv).toNat)
              case atStart => exact ⟨0, by omega, rfl, fun j x hj => by omega, HKX.out⟩
              case round =>
                obtain ⟨k, hk, rfl, hall, hKX⟩ := hrel.ex
                have HA := Lib.hid hall; have HKX := Lib.hid hKX
                clear hall hrel hKX
                have p2 := HPquests.out wr HKX.out
                by_cases hlt : k < Lquests.length
                · have hd1 : decide (k < Lquests.length) = true := by simpa using hlt
                  obtain ⟨x, hx⟩ : ∃ x, Lquests[k]? = some x := ⟨_, List.getElem?_eq_getElem hlt⟩
                  obtain ⟨g, off, rfl, hg⟩ := H1quests.out.some hx
                  have HRG : Hid (∀ w9, Keep (fun _ => False) w w9 → w9.rangeAt g (off + k * 5) (questC x)) := Lib.hid (fun w9 k9 => range_keep (H1quests.out.range questC_len k x hx) k9 hg (fun h => h))
                  have HX := Lib.hid hx
                  clear hx
                  have q0 : wr.cell? ⟨g, off + k * 5, none⟩ = some (.int .i64 x.id) := HRG.out wr HKX.out 0 _ rfl
                  have q1 : wr.cell? ⟨g, off + k * 5 + 1, none⟩ = some (.int .i64 x.item) := HRG.out wr HKX.out 1 _ rfl
                  have q2 : wr.cell? ⟨g, off + k * 5 + 2, none⟩ = some (.int .i64 x.count) := HRG.out wr HKX.out 2 _ rfl
                  have q3 : wr.cell? ⟨g, off + k * 5 + 3, none⟩ = some (.int .i64 x.gold) := HRG.out wr HKX.out 3 _ rfl
                  have q4 : wr.cell? ⟨g, off + k * 5 + 4, none⟩ = some (.int .i64 x.reward) := HRG.out wr HKX.out 4 _ rfl
                  obtain ⟨zi, hzi⟩ : ∃ z, z = findI (fun r : ProtoM => r.id == x.item) D.protos := ⟨_, rfl⟩
                  have Kzi : Hid (∀ w9, Keep (fun _ => False) w w9 → Calls Tryz.prog 86 #[.pointer (some ⟨d, o, none⟩), .int .i64 (x.item)] w9 fun e w' => e = .returned (.int .i64 zi) ∧ w9 = w') := Lib.hid (fun w9 k9 => by rw [hzi]; exact CP.out w9 k9 _)
                  by_cases bzi : zi < 0
                  · have dzi : decide (zi < 0) = true := by rw [decide_eq_true_eq]; exact bzi
                    have Fzi : Hid (hasProto D (x.item) = false) := Lib.hid (by unfold hasProto; rw [← hzi, decide_eq_false_iff_not]; omega)
                    clear hzi bzi
                    go_wp2_with (first | (go_at_call 86; have HB : Hid ((wr.alloc (.cells #[.int .i64 x.id, .int .i64 x.item, .int .i64 x.count, .int .i64 x.gold, .int .i64 x.reward] 86)).heap[wr.heap.size]? = some (.cells #[.int .i64 x.id, .int .i64 x.item, .int .i64 x.count, .int .i64 x.gold, .int .i64 x.reward] 86 (0, 0))) := Lib.hid (heap_alloc_new wr _); have HK1 : Hid (Keep (fun _ => False) w (wr.alloc (.cells #[.int .i64 x.id, .int .i64 x.item, .int .i64 x.count, .int .i64 x.gold, .int .i64 x.reward] 86))) := Lib.hid (HKX.out.alloc _); generalize wr.alloc (.cells #[.int .i64 x.id, .int .i64 x.item, .int .i64 x.count, .int .i64 x.gold, .int .i64 x.reward] 86) = W1 at HB HK1 ⊢; generalize wr.heap.size = B at HB ⊢; clear p2 q0 q1 q2 q3 q4 HKX; have HKX := HK1; have c1 : W1.cell? ⟨B, 1, none⟩ = some (.int .i64 x.item) := (cell_of_row W1 B 1 _ _ _ HB.out).trans rfl; have c4 : W1.cell? ⟨B, 4, none⟩ = some (.int .i64 x.reward) := (cell_of_row W1 B 4 _ _ _ HB.out).trans rfl; (with_reducible refine (Kzi.out _ HKX.out).mono ?_); rintro e w' ⟨rfl, rfl⟩))
                    go_ret
                    exact HBAD.out _ HKX.out (fun h => by have := (h.2.2.2.1 x (List.mem_of_getElem? HX.out)).1; rw [Fzi.out] at this; cases this)
                  · have dzi : decide (zi < 0) = false := by rw [decide_eq_false_iff_not]; exact bzi
                    have Fzi : Hid (hasProto D (x.item) = true) := Lib.hid (by unfold hasProto; rw [← hzi, decide_eq_true_eq]; omega)
                    clear hzi bzi
                    by_cases hr0 : x.reward = 0
                    · have g1 : (x.reward != 0) = false := by rw [hr0]; rfl
                      have g2 : (x.reward == 0) = true := by rw [hr0]; rfl
                      have HNX := Lib.hid (FrTo.next HA.out HX.out ⟨Fzi.out, .inl hr0⟩)
                      clear hr0
                      go_wp2_with (first | (go_at_call 86; have HB : Hid ((wr.alloc (.cells #[.int .i64 x.id, .int .i64 x.item, .int .i64 x.count, .int .i64 x.gold, .int .i64 x.reward] 86)).heap[wr.heap.size]? = some (.cells #[.int .i64 x.id, .int .i64 x.item, .int .i64 x.count, .int .i64 x.gold, .int .i64 x.reward] 86 (0, 0))) := Lib.hid (heap_alloc_new wr _); have HK1 : Hid (Keep (fun _ => False) w (wr.alloc (.cells #[.int .i64 x.id, .int .i64 x.item, .int .i64 x.count, .int .i64 x.gold, .int .i64 x.reward] 86))) := Lib.hid (HKX.out.alloc _); generalize wr.alloc (.cells #[.int .i64 x.id, .int .i64 x.item, .int .i64 x.count, .int .i64 x.gold, .int .i64 x.reward] 86) = W1 at HB HK1 ⊢; generalize wr.heap.size = B at HB ⊢; clear p2 q0 q1 q2 q3 q4 HKX; have HKX := HK1; have c1 : W1.cell? ⟨B, 1, none⟩ = some (.int .i64 x.item) := (cell_of_row W1 B 1 _ _ _ HB.out).trans rfl; have c4 : W1.cell? ⟨B, 4, none⟩ = some (.int .i64 x.reward) := (cell_of_row W1 B 4 _ _ _ HB.out).trans rfl; (with_reducible refine (Kzi.out _ HKX.out).mono ?_); rintro e w' ⟨rfl, rfl⟩))
                      go_roundw
                      case rel => exact ⟨k + 1, by omega, by go_num, HNX.out, HKX.out⟩
                      case measure => simp [intOf]; omega
                    · have g1 : (x.reward != 0) = true := by simpa using hr0
                      have g2 : (x.reward == 0) = false := by simpa using hr0
                      obtain ⟨zr, hzr⟩ : ∃ z, z = findI (fun r : ProtoM => r.id == x.reward) D.protos := ⟨_, rfl⟩
                      have Kzr : Hid (∀ w9, Keep (fun _ => False) w w9 → Calls Tryz.prog 86 #[.pointer (some ⟨d, o, none⟩), .int .i64 (x.reward)] w9 fun e w' => e = .returned (.int .i64 zr) ∧ w9 = w') := Lib.hid (fun w9 k9 => by rw [hzr]; exact CP.out w9 k9 _)
                      by_cases bzr : zr < 0
                      · have dzr : decide (zr < 0) = true := by rw [decide_eq_true_eq]; exact bzr
                        have Fzr : Hid (hasProto D (x.reward) = false) := Lib.hid (by unfold hasProto; rw [← hzr, decide_eq_false_iff_not]; omega)
                        clear hzr bzr
                        have HR0 := Lib.hid hr0
                        clear hr0
                        go_wp2_with (first | (go_at_call 86; have HB : Hid ((wr.alloc (.cells #[.int .i64 x.id, .int .i64 x.item, .int .i64 x.count, .int .i64 x.gold, .int .i64 x.reward] 86)).heap[wr.heap.size]? = some (.cells #[.int .i64 x.id, .int .i64 x.item, .int .i64 x.count, .int .i64 x.gold, .int .i64 x.reward] 86 (0, 0))) := Lib.hid (heap_alloc_new wr _); have HK1 : Hid (Keep (fun _ => False) w (wr.alloc (.cells #[.int .i64 x.id, .int .i64 x.item, .int .i64 x.count, .int .i64 x.gold, .int .i64 x.reward] 86))) := Lib.hid (HKX.out.alloc _); generalize wr.alloc (.cells #[.int .i64 x.id, .int .i64 x.item, .int .i64 x.count, .int .i64 x.gold, .int .i64 x.reward] 86) = W1 at HB HK1 ⊢; generalize wr.heap.size = B at HB ⊢; clear p2 q0 q1 q2 q3 q4 HKX; have HKX := HK1; have c1 : W1.cell? ⟨B, 1, none⟩ = some (.int .i64 x.item) := (cell_of_row W1 B 1 _ _ _ HB.out).trans rfl; have c4 : W1.cell? ⟨B, 4, none⟩ = some (.int .i64 x.reward) := (cell_of_row W1 B 4 _ _ _ HB.out).trans rfl; (with_reducible refine (Kzi.out _ HKX.out).mono ?_); rintro e w' ⟨rfl, rfl⟩) | (go_at_call 86; (with_reducible refine (Kzr.out _ HKX.out).mono ?_); rintro e w' ⟨rfl, rfl⟩))
                        go_ret
                        exact HBAD.out _ HKX.out (fun h => by rcases (h.2.2.2.1 x (List.mem_of_getElem? HX.out)).2 with h | h; exact HR0.out h; rw [Fzr.out] at h; cases h)
                      · have dzr : decide (zr < 0) = false := by rw [decide_eq_false_iff_not]; exact bzr
                        have Fzr : Hid (hasProto D (x.reward) = true) := Lib.hid (by unfold hasProto; rw [← hzr, decide_eq_true_eq]; omega)
                        clear hzr bzr
                        have HNX := Lib.hid (FrTo.next HA.out HX.out ⟨Fzi.out, .inr Fzr.out⟩)
                        clear hr0
                        go_wp2_with (first | (go_at_call 86; have HB : Hid ((wr.alloc (.cells #[.int .i64 x.id, .int .i64 x.item, .int .i64 x.count, .int .i64 x.gold, .int .i64 x.reward] 86)).heap[wr.heap.size]? = some (.cells #[.int .i64 x.id, .int .i64 x.item, .int .i64 x.count, .int .i64 x.gold, .int .i64 x.reward] 86 (0, 0))) := Lib.hid (heap_alloc_new wr _); have HK1 : Hid (Keep (fun _ => False) w (wr.alloc (.cells #[.int .i64 x.id, .int .i64 x.item, .int .i64 x.count, .int .i64 x.gold, .int .i64 x.reward] 86))) := Lib.hid (HKX.out.alloc _); generalize wr.alloc (.cells #[.int .i64 x.id, .int .i64 x.item, .int .i64 x.count, .int .i64 x.gold, .int .i64 x.reward] 86) = W1 at HB HK1 ⊢; generalize wr.heap.size = B at HB ⊢; clear p2 q0 q1 q2 q3 q4 HKX; have HKX := HK1; have c1 : W1.cell? ⟨B, 1, none⟩ = some (.int .i64 x.item) := (cell_of_row W1 B 1 _ _ _ HB.out).trans rfl; have c4 : W1.cell? ⟨B, 4, none⟩ = some (.int .i64 x.reward) := (cell_of_row W1 B 4 _ _ _ HB.out).trans rfl; (with_reducible refine (Kzi.out _ HKX.out).mono ?_); rintro e w' ⟨rfl, rfl⟩) | (go_at_call 86; (with_reducible refine (Kzr.out _ HKX.out).mono ?_); rintro e w' ⟨rfl, rfl⟩))
                        go_roundw
                        case rel => exact ⟨k + 1, by omega, by go_num, HNX.out, HKX.out⟩
                        case measure => simp [intOf]; omega
                · have hd1 : decide (k < Lquests.length) = false := by rw [decide_eq_false_iff_not]; omega
                  have HRquests : Hid (∀ x ∈ Lquests, pQuest D x) := Lib.hid (fun x hx => by
                    obtain ⟨j, hj, rfl⟩ := List.mem_iff_getElem.1 hx
                    exact HA.out j _ (by omega) (List.getElem?_eq_getElem hj))
                  clear HA hlt hk
                  have p3 := HPshops.out wr HKX.out
                  go_wp2
                  go_loopw [10] (fun iv wr => FrR (pShop D) Lshops w iv wr) (fun iv _ => Lshops.length - (intOf iv).toNat)
                  case atStart => exact ⟨0, by omega, rfl, fun j x hj => by omega, HKX.out⟩
                  case round =>
                    obtain ⟨k, hk, rfl, hall, hKX⟩ := hrel.ex
                    have HA := Lib.hid hall; have HKX := Lib.hid hKX
                    clear hall hrel hKX
                    have p2 := HPshops.out wr HKX.out
                    by_cases hlt : k < Lshops.length
                    · have hd1 : decide (k < Lshops.length) = true := by simpa using hlt
                      obtain ⟨⟨x, xv⟩, hx⟩ : ∃ y, LLshops[k]? = some y := ⟨_, List.getElem?_eq_getElem (by rw [← HLLshops.out, List.length_map] at hlt; exact hlt)⟩
                      obtain ⟨g, off, rfl, hg⟩ := H1shops.out.some hx
                      have HRG : Hid (∀ w9, Keep (fun _ => False) w w9 → w9.rangeAt g (off + k * 3) (shopC (x, xv))) := Lib.hid (fun w9 k9 => range_keep (H1shops.out.range shopC_len k (x, xv) hx) k9 hg (fun h => h))
                      have HX : Hid (Lshops[k]? = some x) := Lib.hid (by rw [← HLLshops.out, List.getElem?_map, hx]; rfl)
                      obtain ⟨xa, xc, hxv, hxc, hxc2⟩ : ∃ xa xc, xv = .slice xa x.items.length xc ∧ x.items.length ≤ xc ∧ xc ≤ maxLen := (HINTshops.out _ (List.mem_of_getElem? hx)).slice
                      subst hxv
                      unfold maxLen at hxc2
                      have HIN := Lib.hid (HINTshops.out _ (List.mem_of_getElem? hx))
                      have hxl : x.items.length ≤ 1000000 := HNLshops.out _ (List.mem_of_getElem? hx)
                      clear hx
                      have q0 : wr.cell? ⟨g, off + k * 3, none⟩ = some (.int .i64 x.room) := HRG.out wr HKX.out 0 _ rfl
                      have p1 := HProoms.out wr HKX.out
                      rcases findI_cases (fun r : RoomM => r.id == x.room) D.rooms with ⟨f1, _⟩ | ⟨i, r, f1, f2, _, _⟩
                      · have Kzs : Hid (∀ w9, Keep (fun _ => False) w w9 → Calls Tryz.prog 85 #[.pointer (some ⟨d, o, none⟩), .int .i64 x.room] w9 fun e w' => e = .returned (.int .i64 (-1)) ∧ w9 = w') := Lib.hid (fun w9 k9 => by rw [← f1]; exact CR.out w9 k9 _)
                        have HF1 := Lib.hid f1
                        clear f1
                        go_wp2_with (first | (go_at_call 85; (with_reducible refine (Kzs.out _ HKX.out).mono ?_); rintro e w' ⟨rfl, rfl⟩))
                        go_ret
                        exact HBAD.out _ HKX.out (fun h => by obtain ⟨⟨k9, r9, e9, _⟩, _⟩ := h.2.2.2.2 x (List.mem_of_getElem? HX.out); have := HF1.out; omega)
                      · have Kzs : Hid (∀ w9, Keep (fun _ => False) w w9 → Calls Tryz.prog 85 #[.pointer (some ⟨d, o, none⟩), .int .i64 x.room] w9 fun e w' => e = .returned (.int .i64 (i : Int)) ∧ w9 = w') := Lib.hid (fun w9 k9 => by rw [← f1]; exact CR.out w9 k9 _)
                        have hil : i < Lrooms.length := by have := (List.getElem?_eq_some_iff.1 f2).1; rw [← HLR.out] at this; exact this
                        have f2' : Lrooms[i]? = some r := by rw [HLR.out]; exact f2
                        obtain ⟨gr, offr, rfl, hgr⟩ := H1rooms.out.some f2'
                        have ck : wr.cell? ⟨gr, offr + i * 10 + 2, none⟩ = some (.int .i64 r.kind) := range_keep (H1rooms.out.range roomC_len i r f2') HKX.out hgr (fun h => h) 2 _ rfl
                        have di : decide ((i : Int) < 0) = false := by rw [decide_eq_false_iff_not]; omega
                        have HF1 := Lib.hid f1
                        have HF2 := Lib.hid f2
                        clear f1 f2 f2'
                        by_cases hk1 : r.kind = 1
                        · have g1 : (r.kind != 1) = false := by rw [hk1]; rfl
                          have g2 : (r.kind == 1) = true := by rw [hk1]; rfl
                          have HKD := Lib.hid hk1
                          clear hk1
                          go_wp2_with (first | (go_at_call 85; (with_reducible refine (Kzs.out _ HKX.out).mono ?_); rintro e w' ⟨rfl, rfl⟩))
                          clear q0 ck p1
                          go_loopw [12] (fun jv wq => FrR (fun m => hasProto D m = true) x.items w jv wq) (fun jv _ => x.items.length - (intOf jv).toNat)
                          case atStart => exact ⟨0, by omega, rfl, fun j x hj => by omega, HKX.out⟩
                          case round =>
                            obtain ⟨j, hj, rfl, hall, hKX⟩ := hrel.ex
                            have HJ := Lib.hid hall; have HKX := Lib.hid hKX
                            clear hall hrel hKX
                            have p2 := HPshops.out wr HKX.out
                            have cs : wr.cell? ⟨g, off + k * 3 + 2, none⟩ = some (.slice xa x.items.length xc) := HRG.out wr HKX.out 2 _ rfl
                            by_cases hjl : j < x.items.length
                            · have dj : decide (j < x.items.length) = true := by simpa using hjl
                              obtain ⟨n, hn⟩ : ∃ n, x.items[j]? = some n := ⟨_, List.getElem?_eq_getElem hjl⟩
                              obtain ⟨_, ya, yc, hyv, _, _, hq⟩ := (HIN.out.keep HKX.out (fun _ _ _ h => h)).1
                              simp only [Value.slice.injEq] at hyv
                              obtain ⟨rfl, _, rfl⟩ := hyv
                              obtain ⟨xg, xo, rfl, _, hq⟩ := hq.resolve_left (by omega)
                              have cn : wr.cell? ⟨xg, xo + j, none⟩ = some (.int .i64 n) := hq j _ (icells_get hn)
                              have HNN := Lib.hid hn
                              clear hq hn
                              obtain ⟨zn, hzn⟩ : ∃ z, z = findI (fun r : ProtoM => r.id == n) D.protos := ⟨_, rfl⟩
                              have Kzn : Hid (∀ w9, Keep (fun _ => False) w w9 → Calls Tryz.prog 86 #[.pointer (some ⟨d, o, none⟩), .int .i64 (n)] w9 fun e w' => e = .returned (.int .i64 zn) ∧ w9 = w') := Lib.hid (fun w9 k9 => by rw [hzn]; exact CP.out w9 k9 _)
                              by_cases bzn : zn < 0
                              · have dzn : decide (zn < 0) = true := by rw [decide_eq_true_eq]; exact bzn
                                have Fzn : Hid (hasProto D (n) = false) := Lib.hid (by unfold hasProto; rw [← hzn, decide_eq_false_iff_not]; omega)
                                clear hzn bzn
                                go_wp2_with (first | (go_at_call 86; (with_reducible refine (Kzn.out _ HKX.out).mono ?_); rintro e w' ⟨rfl, rfl⟩))
                                go_ret
                                exact HBAD.out _ HKX.out (fun h => by have := (h.2.2.2.2 x (List.mem_of_getElem? HX.out)).2 n (List.mem_of_getElem? HNN.out); rw [Fzn.out] at this; cases this)
                              · have dzn : decide (zn < 0) = false := by rw [decide_eq_false_iff_not]; exact bzn
                                have Fzn : Hid (hasProto D (n) = true) := Lib.hid (by unfold hasProto; rw [← hzn, decide_eq_true_eq]; omega)
                                clear hzn bzn
                                have HJN : Hid (∀ i m, i < j + 1 → x.items[i]? = some m → hasProto D m = true) := Lib.hid (FrTo.next HJ.out HNN.out Fzn.out)
                                go_wp2_with (first | (go_at_call 86; (with_reducible refine (Kzn.out _ HKX.out).mono ?_); rintro e w' ⟨rfl, rfl⟩))
                                go_roundw
                                case rel => exact ⟨j + 1, by omega, by go_num, HJN.out, HKX.out⟩
                                case measure => simp [intOf]; omega
                            · have dj : decide (j < x.items.length) = false := by rw [decide_eq_false_iff_not]; omega
                              have HAL : Hid (∀ m ∈ x.items, hasProto D m = true) := Lib.hid (fun m hm => by
                                obtain ⟨i, hi, rfl⟩ := List.mem_iff_getElem.1 hm
                                exact HJ.out i _ (by omega) (List.getElem?_eq_getElem hi))
                              have HNX := Lib.hid (FrTo.next HA.out HX.out ⟨⟨i, r, HF1.out, HF2.out, HKD.out⟩, HAL.out⟩)
                              go_wp2
                              go_roundw
                              case rel => exact ⟨k + 1, by omega, by go_num, HNX.out, HKX.out⟩
                              case measure => simp [intOf]; omega
                        · have g1 : (r.kind != 1) = true := by simpa using hk1
                          have g2 : (r.kind == 1) = false := by simpa using hk1
                          have HKD := Lib.hid hk1
                          clear hk1
                          go_wp2_with (first | (go_at_call 85; (with_reducible refine (Kzs.out _ HKX.out).mono ?_); rintro e w' ⟨rfl, rfl⟩))
                          go_ret
                          exact HBAD.out _ HKX.out (fun h => by obtain ⟨⟨k9, r9, e9, e8, e7⟩, _⟩ := h.2.2.2.2 x (List.mem_of_getElem? HX.out); rw [HF1.out] at e9; obtain rfl : i = k9 := (by omega); rw [HF2.out] at e8; cases e8; exact HKD.out e7)
                    · have hd1 : decide (k < Lshops.length) = false := by rw [decide_eq_false_iff_not]; omega
                      have HRshops : Hid (∀ x ∈ Lshops, pShop D x) := Lib.hid (fun x hx => by
                        obtain ⟨j, hj, rfl⟩ := List.mem_iff_getElem.1 hx
                        exact HA.out j _ (by omega) (List.getElem?_eq_getElem hj))
                      clear HA hlt hk
                      go_wp2
                      go_ret
                      exact ⟨true, rfl, ⟨fun _ => ⟨HRrooms.out, HRmobs.out, HRrecs.out, HRquests.out, HRshops.out⟩, fun _ => rfl⟩, HKX.out⟩
end Go.Proofs.YtcodbomgodkcmaaGreatDoor.Wd
/- World files: the reference's Check. -/
namespace Go.Proofs.YtcodbomgodkcmaaGreatDoor.Wd
open Go.RowKit Go.Maps Go.Proofs.YtcodbomgodkcmaaGreatDoor Go.Proofs.YtcodbomgodkcmaaGreatDoor.Lin
set_option maxRecDepth 100000

theorem boolOf (p : Prop) : ∃ b : Bool, b = true ↔ p := by
  by_cases h : p
  · exact ⟨true, ⟨fun _ => h, fun _ => rfl⟩⟩
  · exact ⟨false, ⟨fun (h0 : false = true) => (by cases h0), fun h0 => absurd h0 h⟩⟩
theorem boolOf_eq {p : Prop} {b c : Bool} (h1 : b = true ↔ p) (h2 : c = true ↔ p) : b = c := Bool.eq_iff_iff.2 (h1.trans h2.symm)

theorem refCheck_nil {w : World} : Calls Tryz.prog 12 #[.pointer none] w fun e w' => e = .returned (.int .i64 13) ∧ w = w' := by
  go_enter Tryz.func12, Tryz.ntmps12
  go_wp2
  go_ret
  exact ⟨rfl, rfl⟩

set_option maxHeartbeats 4000000 in
theorem refCheck_any {w : World} {d o : Nat} {D : DbM} {P : Nat → Prop} (h : DbAt P w d o D) (hs : DbSz D) :
    Calls Tryz.prog 12 #[.pointer (some ⟨d, o, none⟩)] w fun e w' => e = .returned (.int .i64 (checkF D)) ∧ Keep (fun _ => False) w w' := by
  obtain ⟨b1, h1⟩ := boolOf (RoomsOk D)
  obtain ⟨b2, h2⟩ := boolOf (ThingsOk D)
  obtain ⟨b3, h3⟩ := boolOf (RestOk D)
  obtain ⟨b4, h4⟩ := boolOf (ThereOk D)
  have C1 : Hid (∀ w9, Keep (fun _ => False) w w9 → Calls Tryz.prog 29 #[.pointer (some ⟨d, o, none⟩)] w9 fun e w' => e = .returned (.bool b1) ∧ Keep (fun _ => False) w9 w') := Lib.hid (fun w9 k9 => (refRooms_any (h.keep k9 (fun _ _ h => h)) hs.rooms hs.rname).mono fun e w' ⟨b, he, hb, hk⟩ => ⟨by rw [he, boolOf_eq hb h1], hk⟩)
  have C2 : Hid (∀ w9, Keep (fun _ => False) w w9 → Calls Tryz.prog 30 #[.pointer (some ⟨d, o, none⟩)] w9 fun e w' => e = .returned (.bool b2) ∧ Keep (fun _ => False) w9 w') := Lib.hid (fun w9 k9 => (refThings_any (h.keep k9 (fun _ _ h => h)) hs.protos hs.mobs hs.pname hs.mname).mono fun e w' ⟨b, he, hb, hk⟩ => ⟨by rw [he, boolOf_eq hb h2], hk⟩)
  have C3 : Hid (∀ w9, Keep (fun _ => False) w w9 → Calls Tryz.prog 31 #[.pointer (some ⟨d, o, none⟩)] w9 fun e w' => e = .returned (.bool b3) ∧ Keep (fun _ => False) w9 w') := Lib.hid (fun w9 k9 => (refRest_any (h.keep k9 (fun _ _ h => h)) hs.recs hs.quests hs.shops hs.needs hs.items).mono fun e w' ⟨b, he, hb, hk⟩ => ⟨by rw [he, boolOf_eq hb h3], hk⟩)
  have C4 : Hid (∀ w9, Keep (fun _ => False) w w9 → Calls Tryz.prog 32 #[.pointer (some ⟨d, o, none⟩)] w9 fun e w' => e = .returned (.bool b4) ∧ Keep (fun _ => False) w9 w') := Lib.hid (fun w9 k9 => (refThere_any (h.keep k9 (fun _ _ h => h)) hs).mono fun e w' ⟨b, he, hb, hk⟩ => ⟨by rw [he, boolOf_eq hb h4], hk⟩)
  have HE : Hid (checkF D = if D.rooms = [] ∨ b1 = false ∨ b2 = false ∨ b3 = false then 13 else if b4 = false then 6 else 0) := Lib.hid (by
    unfold checkF
    have n1 : (b1 = false) = ¬ RoomsOk D := propext (by rw [← h1]; cases b1 <;> decide)
    have n2 : (b2 = false) = ¬ ThingsOk D := propext (by rw [← h2]; cases b2 <;> decide)
    have n3 : (b3 = false) = ¬ RestOk D := propext (by rw [← h3]; cases b3 <;> decide)
    have n4 : (b4 = false) = ¬ ThereOk D := propext (by rw [← h4]; cases b4 <;> decide)
    have g : (D.rooms = [] ∨ ¬ RoomsOk D ∨ ¬ ThingsOk D ∨ ¬ RestOk D) ↔ (D.rooms = [] ∨ b1 = false ∨ b2 = false ∨ b3 = false) := by rw [n1, n2, n3]
    have g4 : ¬ ThereOk D ↔ b4 = false := by rw [n4]
    by_cases q : D.rooms = [] ∨ ¬ RoomsOk D ∨ ¬ ThingsOk D ∨ ¬ RestOk D
    · rw [if_pos q, if_pos (g.1 q)]
    · rw [if_neg q, if_neg (fun h => q (g.2 h))]
      by_cases q4 : ¬ ThereOk D
      · rw [if_pos q4, if_pos (g4.1 q4)]
      · rw [if_neg q4, if_neg (fun h => q4 (g4.2 h))])
  obtain ⟨v1, v2, v3, v4, v5, v6, rr, ss, hd, hr, g1, _⟩ := h.ex
  have p1 : w.cell? ⟨d, o, none⟩ = some v1 := hr 0 _ rfl
  obtain ⟨a1, c1, rfl, hc1, hc2⟩ := g1.slice
  obtain ⟨z, hz⟩ : ∃ z, z = checkF D := ⟨_, rfl⟩
  rw [← hz] at HE ⊢
  obtain ⟨n, hn⟩ : ∃ n, n = D.rooms.length := ⟨_, rfl⟩
  have HN : Hid (D.rooms = [] ↔ n = 0) := Lib.hid (by rw [hn]; exact List.length_eq_zero_iff.symm)
  rw [← hn] at p1 hc1
  unfold maxLen at hc2
  clear h hs h1 h2 h3 h4 hr g1 hz hn
  by_cases h0 : n = 0
  · have d0 : ((n : Int) == 0) = true := by rw [h0]; rfl
    have d1 : (n == 0) = true := by rw [h0]; rfl
    have HZ : Hid (z = 13) := Lib.hid (by rw [HE.out, if_pos (.inl (HN.out.2 h0))])
    clear h0
    go_enter Tryz.func12, Tryz.ntmps12
    go_wp2
    go_ret
    exact ⟨by rw [HZ.out]; rfl, Keep.refl _ _⟩
  have d0 : ((n : Int) == 0) = false := by rw [beq_eq_false_iff_ne]; omega
  have d1 : (n == 0) = false := by rw [beq_eq_false_iff_ne]; omega
  have HNE : Hid (¬ D.rooms = []) := Lib.hid (fun e => h0 (HN.out.1 e))
  clear h0
  have HK0 : Hid (Keep (fun _ => False) w w) := Lib.hid (Keep.refl _ _)
  cases b1 with
  | false =>
    have HZ : Hid (z = 13) := Lib.hid (by rw [HE.out, if_pos (.inr (.inl rfl))])
    go_enter Tryz.func12, Tryz.ntmps12
    go_wp2_with (go_at_call 29; (with_reducible refine (C1.out _ HK0.out).mono ?_); rintro e w1 ⟨rfl, k1⟩; have K1 := Lib.hid k1; clear k1)
    go_ret
    exact ⟨by rw [HZ.out]; rfl, K1.out⟩
  | true =>
    cases b2 with
    | false =>
      have HZ : Hid (z = 13) := Lib.hid (by rw [HE.out, if_pos (.inr (.inr (.inl rfl)))])
      go_enter Tryz.func12, Tryz.ntmps12
      go_wp2_with (first
        | (go_at_call 29; (with_reducible refine (C1.out _ HK0.out).mono ?_); rintro e w1 ⟨rfl, k1⟩; have K1 := Lib.hid k1; clear k1)
        | (go_at_call 30; (with_reducible refine (C2.out _ K1.out).mono ?_); rintro e w2 ⟨rfl, k2⟩; have K2 := Lib.hid (K1.out.trans k2 (fun _ h => h.elim)); clear k2))
      go_ret
      exact ⟨by rw [HZ.out]; rfl, K2.out⟩
    | true =>
      cases b3 with
      | false =>
        have HZ : Hid (z = 13) := Lib.hid (by rw [HE.out, if_pos (.inr (.inr (.inr rfl)))])
        go_enter Tryz.func12, Tryz.ntmps12
        go_wp2_with (first
          | (go_at_call 29; (with_reducible refine (C1.out _ HK0.out).mono ?_); rintro e w1 ⟨rfl, k1⟩; have K1 := Lib.hid k1; clear k1)
          | (go_at_call 30; (with_reducible refine (C2.out _ K1.out).mono ?_); rintro e w2 ⟨rfl, k2⟩; have K2 := Lib.hid (K1.out.trans k2 (fun _ h => h.elim)); clear k2)
          | (go_at_call 31; (with_reducible refine (C3.out _ K2.out).mono ?_); rintro e w3 ⟨rfl, k3⟩; have K3 := Lib.hid (K2.out.trans k3 (fun _ h => h.elim)); clear k3))
        go_ret
        exact ⟨by rw [HZ.out]; rfl, K3.out⟩
      | true =>
        have HZ : Hid (z = if b4 = false then 6 else 0) := Lib.hid (by rw [HE.out, if_neg (by rintro (h | h | h | h); exact HNE.out h; cases h; cases h; cases h)])
        cases b4 with
        | false =>
          go_enter Tryz.func12, Tryz.ntmps12
          go_wp2_with (first
            | (go_at_call 29; (with_reducible refine (C1.out _ HK0.out).mono ?_); rintro e w1 ⟨rfl, k1⟩; have K1 := Lib.hid k1; clear k1)
            | (go_at_call 30; (with_reducible refine (C2.out _ K1.out).mono ?_); rintro e w2 ⟨rfl, k2⟩; have K2 := Lib.hid (K1.out.trans k2 (fun _ h => h.elim)); clear k2)
            | (go_at_call 31; (with_reducible refine (C3.out _ K2.out).mono ?_); rintro e w3 ⟨rfl, k3⟩; have K3 := Lib.hid (K2.out.trans k3 (fun _ h => h.elim)); clear k3)
            | (go_at_call 32; (with_reducible refine (C4.out _ K3.out).mono ?_); rintro e w4 ⟨rfl, k4⟩; have K4 := Lib.hid (K3.out.trans k4 (fun _ h => h.elim)); clear k4))
          go_ret
          exact ⟨by rw [HZ.out]; rfl, K4.out⟩
        | true =>
          go_enter Tryz.func12, Tryz.ntmps12
          go_wp2_with (first
            | (go_at_call 29; (with_reducible refine (C1.out _ HK0.out).mono ?_); rintro e w1 ⟨rfl, k1⟩; have K1 := Lib.hid k1; clear k1)
            | (go_at_call 30; (with_reducible refine (C2.out _ K1.out).mono ?_); rintro e w2 ⟨rfl, k2⟩; have K2 := Lib.hid (K1.out.trans k2 (fun _ h => h.elim)); clear k2)
            | (go_at_call 31; (with_reducible refine (C3.out _ K2.out).mono ?_); rintro e w3 ⟨rfl, k3⟩; have K3 := Lib.hid (K2.out.trans k3 (fun _ h => h.elim)); clear k3)
            | (go_at_call 32; (with_reducible refine (C4.out _ K3.out).mono ?_); rintro e w4 ⟨rfl, k4⟩; have K4 := Lib.hid (K3.out.trans k4 (fun _ h => h.elim)); clear k4))
          go_ret
          exact ⟨by rw [HZ.out]; rfl, K4.out⟩
end Go.Proofs.YtcodbomgodkcmaaGreatDoor.Wd
