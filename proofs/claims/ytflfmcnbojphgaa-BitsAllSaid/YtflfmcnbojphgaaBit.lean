/- What bitmap's functions do, at every map. -/
import Derived.Test.YtflfmcnbojphgaaBitM
import Derived.Test.YtflfmcnbojphgaaArgs
import Derived.Test.YtflfmcnbojphgaaErr
import Derived.Deep.MidRow
namespace Go.Proofs.Ytflfmcnbojphgaa
set_option maxRecDepth 100000
open Go.RowKit

def mapC (n : Nat) (B : List UInt8) : Array Value := (Value.int .i64 n :: bcells B).toArray

/-- A map at block p. -/
structure IsMap (w : World) (p n : Nat) (B : List UInt8) : Prop where
  head : w.heap[p]? = some (.cells (mapC n B) 45 (0, 0))
  ok : MOk n B

theorem IsMap.keep {F : Nat → Prop} {w w' : World} {p n : Nat} {B : List UInt8} (h : IsMap w p n B) (k : Keep F w w') (hF : ¬ F p) : IsMap w' p n B :=
  ⟨(k.block p (lt_of_block h.head) hF).trans h.head, h.ok⟩

theorem IsMap.lt {w : World} {p n : Nat} {B : List UInt8} (h : IsMap w p n B) : p < w.heap.size := lt_of_block h.head

theorem IsMap.count {w : World} {p n : Nat} {B : List UInt8} (h : IsMap w p n B) : w.cell? ⟨p, 0, none⟩ = some (.int .i64 n) := by
  rw [cell_of_row _ _ _ _ _ _ h.head]; rfl

theorem bcells_get (B : List UInt8) (k : Nat) (h : k < B.length) : (bcells B)[k]? = some (.int .u8 ((B.getD k 0).toNat : Int)) := by
  simp [bcells, h]

theorem IsMap.byte {w : World} {p n : Nat} {B : List UInt8} (h : IsMap w p n B) (k : Nat) (hk : k < 512) : w.cell? ⟨p, 1 + k, none⟩ = some (.int .u8 ((B.getD k 0).toNat : Int)) := by
  rw [cell_of_row _ _ _ _ _ _ h.head, mapC, Nat.add_comm]
  simp only [List.getElem?_toArray, List.getElem?_cons_succ]
  exact bcells_get B k (by rw [h.ok.len]; exact hk)

theorem IsMap.free {w : World} {p n : Nat} {B : List UInt8} (h : IsMap w p n B) (i : Nat) : w.frozen? ⟨p, i, none⟩ = false := frozen_of_row _ _ _ _ _ h.head

theorem Try.infoM : (Try.prog.info? 45).map (·.size) = some 513 := by kernel_rfl

/-- A number below 4,096 and its byte and bit. -/
theorem split8 (i : Nat) : ((i : Int) / 8 = ((i / 8 : Nat) : Int)) ∧ ((i : Int) % 8 = ((i % 8 : Nat) : Int)) := by omega

theorem u8_has (c : UInt8) : ∀ r : Fin 8, (bits .and .u8 ((c.toNat : Int) / 2 ^ r.1) 1 == 1) = c.toNat.testBit r.1 :=
  all_u8 (p := fun c => ∀ r : Fin 8, (bits .and .u8 ((c.toNat : Int) / 2 ^ r.1) 1 == 1) = c.toNat.testBit r.1) (by decide +kernel) c

theorem u8_or (c : UInt8) : ∀ r : Fin 8, bits .or .u8 (c.toNat : Int) (2 ^ r.1 % 256) = ((c ||| u8bit r.1).toNat : Int) :=
  all_u8 (p := fun c => ∀ r : Fin 8, bits .or .u8 (c.toNat : Int) (2 ^ r.1 % 256) = ((c ||| u8bit r.1).toNat : Int)) (by decide +kernel) c

theorem u8_andNot (c : UInt8) : ∀ r : Fin 8, bits .andNot .u8 (c.toNat : Int) (2 ^ r.1 % 256) = ((c &&& ~~~ u8bit r.1).toNat : Int) :=
  all_u8 (p := fun c => ∀ r : Fin 8, bits .andNot .u8 (c.toNat : Int) (2 ^ r.1 % 256) = ((c &&& ~~~ u8bit r.1).toNat : Int)) (by decide +kernel) c

theorem IsMap.stored {w : World} {p n : Nat} {B B' : List UInt8} (h : IsMap w p n B) (q : Nat) (c : UInt8) (x : Int) (hx : x = (c.toNat : Int)) (e : B' = B.set q c) (ok : MOk n B') :
    IsMap (w.setCell ⟨p, 1 + q, none⟩ (.int .u8 x)).drew p n B' ∧ Keep (fun b => b = p) w (w.setCell ⟨p, 1 + q, none⟩ (.int .u8 x)).drew := by
  subst hx
  subst e
  refine ⟨⟨?_, ok⟩, ((Keep.refl (fun b => b = p) w).setCell _ _ (.inl rfl)).drew⟩
  show (w.setCell ⟨p, 1 + q, none⟩ _).heap[p]? = _
  rw [heap_setCell_at _ h.head]
  congr 2
  rw [mapC, mapC, Nat.add_comm, List.setIfInBounds_toArray, List.set_cons_succ, bcells, bcells, List.map_set]

def knowsB (n : Nat) (i : Int) : Bool := decide (0 ≤ i ∧ i < n)

set_option maxHeartbeats 400000 in
theorem knows_any {w : World} {p n : Nat} {B : List UInt8} (h : IsMap w p n B) (i : Int) :
    Calls Try.prog 16 #[.pointer (some ⟨p, 0, none⟩), .int .i64 i] w fun e w' => e = .returned (.bool (knowsB n i)) ∧ w = w' := by
  have h0 := h.count
  clear h
  by_cases hi : 0 ≤ i
  · go_enter Try.func16, Try.ntmps16
    go_wp2
    go_ret
    refine ⟨?_, rfl⟩
    simp [knowsB, hi]
  · go_enter Try.func16, Try.ntmps16
    go_wp2
    go_ret
    refine ⟨?_, rfl⟩
    simp [knowsB]
    omega

set_option maxHeartbeats 1000000 in
theorem has_map {w : World} {p n : Nat} {B : List UInt8} (h : IsMap w p n B) (i : Nat) (hi : i < n) :
    Calls Try.prog 12 #[.pointer (some ⟨p, 0, none⟩), .int .i64 i] w fun e w' => e = .returned (.bool (mbit B i)) ∧ w = w' := by
  have HM := Lib.hid h
  have hk : knowsB n i = true := by simp [knowsB, hi]
  have HK := Lib.hid hk
  have hm := h.ok.most
  have c1 := h.byte (i / 8) (by omega)
  obtain ⟨s1, s2⟩ := split8 i
  have hc := (B.getD (i / 8) 0).toNat_lt
  have hr : i % 8 < 8 := by omega
  have HB : Hid (mbit B i = (B.getD (i / 8) 0).toNat.testBit (i % 8)) := Lib.hid rfl
  generalize B.getD (i / 8) 0 = c at *
  generalize hq : i / 8 = q at *
  generalize hr' : i % 8 = r at *
  clear h hk
  go_enter Try.func12, Try.ntmps12
  go_wp2_with (go_at_call 16; refine (knows_any HM.out _).mono ?_; rw [HK.out]; rintro e w' ⟨rfl, rfl⟩)
  go_ret
  refine ⟨?_, rfl⟩
  have := u8_has c ⟨r, hr⟩
  simp only at this
  rw [HB.out, ← this]
  rfl

theorem has_out {w : World} {p n : Nat} {B : List UInt8} (h : IsMap w p n B) (i : Int) (hi : knowsB n i = false) :
    Calls Try.prog 12 #[.pointer (some ⟨p, 0, none⟩), .int .i64 i] w fun e w' => e = .returned (.bool false) ∧ w = w' := by
  have HM := Lib.hid h
  have HK := Lib.hid hi
  clear h hi
  go_enter Try.func12, Try.ntmps12
  go_wp2_with (go_at_call 16; refine (knows_any HM.out _).mono ?_; rw [HK.out]; rintro e w' ⟨rfl, rfl⟩)
  go_ret
  exact ⟨rfl, rfl⟩

theorem apiErr4 : True := trivial

theorem set_out {w : World} {p n : Nat} {B : List UInt8} (h : IsMap w p n B) (i : Int) (hi : knowsB n i = false) :
    Calls Try.prog 9 #[.pointer (some ⟨p, 0, none⟩), .int .i64 i] w fun e w' => e = .returned (apiErr 1) ∧ w = w' := by
  have HM := Lib.hid h
  have HK := Lib.hid hi
  clear h hi
  go_enter Try.func9, Try.ntmps9
  go_wp2_with (go_at_call 16; refine (knows_any HM.out _).mono ?_; rw [HK.out]; rintro e w' ⟨rfl, rfl⟩)
  go_ret
  exact ⟨rfl, rfl⟩

theorem free_out {w : World} {p n : Nat} {B : List UInt8} (h : IsMap w p n B) (i : Int) (hi : knowsB n i = false) :
    Calls Try.prog 8 #[.pointer (some ⟨p, 0, none⟩), .int .i64 i] w fun e w' => e = .returned (apiErr 1) ∧ w = w' := by
  have HM := Lib.hid h
  have HK := Lib.hid hi
  clear h hi
  go_enter Try.func8, Try.ntmps8
  go_wp2_with (go_at_call 16; refine (knows_any HM.out _).mono ?_; rw [HK.out]; rintro e w' ⟨rfl, rfl⟩)
  go_ret
  exact ⟨rfl, rfl⟩

theorem set_was {w : World} {p n : Nat} {B : List UInt8} (h : IsMap w p n B) (i : Nat) (hi : i < n) (hb : mbit B i = true) :
    Calls Try.prog 9 #[.pointer (some ⟨p, 0, none⟩), .int .i64 i] w fun e w' => e = .returned (apiErr 4) ∧ w = w' := by
  have HM := Lib.hid h
  have HK : Hid (knowsB n i = true) := Lib.hid (by simp [knowsB, hi])
  have HB := Lib.hid hb
  clear h hb
  go_enter Try.func9, Try.ntmps9
  go_wp2_with (first | (go_at_call 16; refine (knows_any HM.out _).mono ?_; rw [HK.out]; rintro e w' ⟨rfl, rfl⟩) | (go_at_call 12; refine (has_map HM.out i hi).mono ?_; rw [HB.out]; rintro e w' ⟨rfl, rfl⟩))
  go_ret
  exact ⟨rfl, rfl⟩

theorem free_was {w : World} {p n : Nat} {B : List UInt8} (h : IsMap w p n B) (i : Nat) (hi : i < n) (hb : mbit B i = false) :
    Calls Try.prog 8 #[.pointer (some ⟨p, 0, none⟩), .int .i64 i] w fun e w' => e = .returned (apiErr 4) ∧ w = w' := by
  have HM := Lib.hid h
  have HK : Hid (knowsB n i = true) := Lib.hid (by simp [knowsB, hi])
  have HB := Lib.hid hb
  clear h hb
  go_enter Try.func8, Try.ntmps8
  go_wp2_with (first | (go_at_call 16; refine (knows_any HM.out _).mono ?_; rw [HK.out]; rintro e w' ⟨rfl, rfl⟩) | (go_at_call 12; refine (has_map HM.out i hi).mono ?_; rw [HB.out]; rintro e w' ⟨rfl, rfl⟩))
  go_ret
  exact ⟨rfl, rfl⟩

set_option maxHeartbeats 1000000 in
theorem set_new {w : World} {p n : Nat} {B : List UInt8} (h : IsMap w p n B) (i : Nat) (hi : i < n) (hb : mbit B i = false) :
    Calls Try.prog 9 #[.pointer (some ⟨p, 0, none⟩), .int .i64 i] w fun e w' => e = .returned .nilIface ∧ IsMap w' p n (bset B i) ∧ Keep (fun b => b = p) w w' := by
  have HM := Lib.hid h
  have HK : Hid (knowsB n i = true) := Lib.hid (by simp [knowsB, hi])
  have HB := Lib.hid hb
  have hm := h.ok.most
  have c1 := h.byte (i / 8) (by omega)
  have f1 := h.free (1 + i / 8)
  obtain ⟨s1, s2⟩ := split8 i
  have hr : i % 8 < 8 := by omega
  have hq512 : i / 8 < 512 := by omega
  have hc := (B.getD (i / 8) 0).toNat_lt
  have HBS : Hid (bset B i = B.set (i / 8) (B.getD (i / 8) 0 ||| u8bit (i % 8))) := Lib.hid rfl
  generalize B.getD (i / 8) 0 = c at *
  generalize i / 8 = q at *
  generalize i % 8 = r at *
  clear h hb
  go_enter Try.func9, Try.ntmps9
  go_wp2_with (first | (go_at_call 16; refine (knows_any HM.out _).mono ?_; rw [HK.out]; rintro e w' ⟨rfl, rfl⟩) | (go_at_call 12; refine (has_map HM.out i hi).mono ?_; rw [HB.out]; rintro e w' ⟨rfl, rfl⟩))
  go_region
  all_goals go_wp2
  all_goals go_ret
  all_goals
    have e := u8_or c ⟨r, hr⟩
    obtain ⟨r1, r2⟩ := HM.out.stored q _ _ e HBS.out (HM.out.ok.set hi)
    exact ⟨rfl, r1, r2⟩

set_option maxHeartbeats 1000000 in
theorem free_old {w : World} {p n : Nat} {B : List UInt8} (h : IsMap w p n B) (i : Nat) (hi : i < n) (hb : mbit B i = true) :
    Calls Try.prog 8 #[.pointer (some ⟨p, 0, none⟩), .int .i64 i] w fun e w' => e = .returned .nilIface ∧ IsMap w' p n (bclr B i) ∧ Keep (fun b => b = p) w w' := by
  have HM := Lib.hid h
  have HK : Hid (knowsB n i = true) := Lib.hid (by simp [knowsB, hi])
  have HB := Lib.hid hb
  have hm := h.ok.most
  have c1 := h.byte (i / 8) (by omega)
  have f1 := h.free (1 + i / 8)
  obtain ⟨s1, s2⟩ := split8 i
  have hr : i % 8 < 8 := by omega
  have hq512 : i / 8 < 512 := by omega
  have hc := (B.getD (i / 8) 0).toNat_lt
  have HBS : Hid (bclr B i = B.set (i / 8) (B.getD (i / 8) 0 &&& ~~~ u8bit (i % 8))) := Lib.hid rfl
  generalize B.getD (i / 8) 0 = c at *
  generalize i / 8 = q at *
  generalize i % 8 = r at *
  clear h hb
  go_enter Try.func8, Try.ntmps8
  go_wp2_with (first | (go_at_call 16; refine (knows_any HM.out _).mono ?_; rw [HK.out]; rintro e w' ⟨rfl, rfl⟩) | (go_at_call 12; refine (has_map HM.out i hi).mono ?_; rw [HB.out]; rintro e w' ⟨rfl, rfl⟩))
  go_region
  all_goals go_wp2
  all_goals go_ret
  all_goals
    have e := u8_andNot c ⟨r, hr⟩
    obtain ⟨r1, r2⟩ := HM.out.stored q _ _ e HBS.out (HM.out.ok.clr hi)
    exact ⟨rfl, r1, r2⟩

end Go.Proofs.Ytflfmcnbojphgaa
