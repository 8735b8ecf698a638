/- wal's small helpers: two bytes as a number, which sectors are home, a sector read and written. -/
import Derived.Test.YtibmillfankjfaaGreatDoorHomes
import Derived.BigQuiet
namespace Go.Proofs.YtibmillfankjfaaGreatDoor
open Go.RowKit
set_option maxRecDepth 100000

/-- The byte at k is b. -/
def bset (s : ByteArray) (k : Nat) (b : UInt8) : ByteArray := ⟨s.data.setIfInBounds k b⟩

theorem bset_size (s : ByteArray) (k : Nat) (b : UInt8) : (bset s k b).size = s.size := by
  show (s.data.setIfInBounds k b).size = s.data.size
  simp

theorem secC_bset (s : ByteArray) (k : Nat) (b : UInt8) : secC (bset s k b) = (secC s).setIfInBounds k (.int .u8 (b.toNat : Int)) := by
  apply Array.ext'
  simp [secC, bset, byteCells, List.map_set]

theorem SecAt.set {w : World} {g : Nat} {s : ByteArray} (h : SecAt w g s) (k : Nat) (b : UInt8) : SecAt (w.setCell ⟨g, k, none⟩ (.int .u8 (b.toNat : Int))) g (bset s k b) := by
  refine ⟨?_, by rw [bset_size]; exact h.2⟩
  rw [heap_setCell_at _ h.1, secC_bset]

/-- Two bytes as a number. -/
def num16 (s : ByteArray) (k : Nat) : Nat := (s.data.getD k 0).toNat + 256 * (s.data.getD (k + 1) 0).toNat

theorem num16_lt (s : ByteArray) (k : Nat) : num16 s k < 65536 := by
  have h1 := (s.data.getD k 0).toNat_lt
  have h2 := (s.data.getD (k + 1) 0).toNat_lt
  unfold num16
  omega

def put16 (s : ByteArray) (k n : Nat) : ByteArray := bset (bset s k (UInt8.ofNat n)) (k + 1) (UInt8.ofNat (n / 256))

theorem put16_size (s : ByteArray) (k n : Nat) : (put16 s k n).size = s.size := by simp [put16, bset_size]

theorem or_bytes (a b : UInt8) : bits .or .i64 (a.toNat : Int) ((b.toNat : Int) * 256) = ((a.toNat + 256 * b.toNat : Nat) : Int) := by
  have ha := a.toNat_lt
  have hb := b.toNat_lt
  have e : (b.toNat : Int) * 256 = ((b.toNat * 256 : Nat) : Int) := by omega
  have h1 : (BitVec.ofInt 64 (a.toNat : Int)).toNat = a.toNat := by
    rw [BitVec.ofInt_natCast, BitVec.toNat_ofNat]; exact Nat.mod_eq_of_lt (by omega)
  have h2 : (BitVec.ofInt 64 ((b.toNat * 256 : Nat) : Int)).toNat = b.toNat * 256 := by
    rw [BitVec.ofInt_natCast, BitVec.toNat_ofNat]; exact Nat.mod_eq_of_lt (by omega)
  rw [e]
  show IntKind.i64.wrap ((BitVec.ofInt 64 (a.toNat : Int) ||| BitVec.ofInt 64 ((b.toNat * 256 : Nat) : Int)).toNat : Int) = _
  rw [BitVec.toNat_or, h1, h2]
  have h3 : a.toNat ||| b.toNat * 256 = a.toNat + 256 * b.toNat := by
    have := Nat.shiftLeft_add_eq_or_of_lt (b := a.toNat) (i := 8) (by omega) b.toNat
    rw [Nat.shiftLeft_eq] at this
    rw [Nat.or_comm, ← this]
    omega
  rw [h3]
  rw [IntKind.wrap_i64]
  omega

theorem SecAt.cellAt {w : World} {g : Nat} {s : ByteArray} (h : SecAt w g s) (k : Nat) (hk : k < 512) : w.cell? ⟨g, k, none⟩ = some (.int .u8 ((s.data.getD k 0).toNat : Int)) := by
  rw [cell_of_row _ _ _ _ _ _ h.1]
  exact secC_at s h.2 k hk

theorem SecAt.free {w : World} {g : Nat} {s : ByteArray} (h : SecAt w g s) (k : Nat) : w.frozen? ⟨g, k, none⟩ = false := frozen_of_row _ _ _ _ _ h.1

set_option maxHeartbeats 1000000 in
theorem put16_any {w : World} {g : Nat} {s : ByteArray} (h : SecAt w g s) (k : Nat) (hk : k + 1 < 512) (n : Nat) (hn : n < 65536) (m c : Nat) (hm : 1 < m) :
    Calls Tryz.prog 57 #[.slice (some ⟨g, k, none⟩) m c, .int .i64 (n : Int)] w fun e w' => e = .returned (.tuple #[]) ∧ SecAt w' g (put16 s k n) ∧ Keep (fun b => b = g) w w' ∧ w'.heap.size = w.heap.size := by
  have HS := Lib.hid h
  have c0 := h.cellAt k (by omega)
  have c1 := h.cellAt (k + 1) (by omega)
  have f0 := h.free k
  have f1 := h.free (k + 1)
  have h0 : 0 < m := by omega
  clear h
  go_enter Tryz.func57, Tryz.ntmps57
  go_wp2
  go_end0
  have e1 : (n : Int) % 256 = ((UInt8.ofNat n).toNat : Int) := by rw [UInt8.toNat_ofNat']; omega
  have e2 : (n : Int) / 256 = ((UInt8.ofNat (n / 256)).toNat : Int) := by rw [UInt8.toNat_ofNat']; omega
  refine ⟨rfl, ?_, ?_, ?_⟩
  · rw [e1, e2]
    exact (HS.out.set k _).set (k + 1) _
  · exact ((Keep.refl (fun b => b = g) w).setCell _ _ (.inl rfl)).setCell _ _ (.inl rfl)
  · simp

theorem put16_z {w : World} {g : Nat} {s : ByteArray} (h : SecAt w g s) (k : Nat) (hk : k + 1 < 512) (n : Nat) (hn : n < 65536) (m c : Nat) (hm : 1 < m) (z : Int) (hz : z = (n : Int)) :
    Calls Tryz.prog 57 #[.slice (some ⟨g, k, none⟩) m c, .int .i64 z] w fun e w' => e = .returned (.tuple #[]) ∧ SecAt w' g (put16 s k n) ∧ Keep (fun b => b = g) w w' ∧ w'.heap.size = w.heap.size := by
  subst hz
  exact put16_any h k hk n hn m c hm

set_option maxHeartbeats 1000000 in
theorem get16_any {w : World} {g : Nat} {s : ByteArray} (h : SecAt w g s) (k : Nat) (hk : k + 1 < 512) (m c : Nat) (hm : 1 < m) :
    Calls Tryz.prog 41 #[.slice (some ⟨g, k, none⟩) m c] w fun e w' => e = .returned (.int .i64 (num16 s k : Int)) ∧ Keep (fun _ => False) w w' ∧ w'.heap = w.heap := by
  have c0 := h.cellAt k (by omega)
  have c1 := h.cellAt (k + 1) (by omega)
  have h0 : 0 < m := by omega
  have ho := or_bytes (s.data.getD k 0) (s.data.getD (k + 1) 0)
  have hn : (num16 s k : Int) = (((s.data.getD k 0).toNat + 256 * (s.data.getD (k + 1) 0).toNat : Nat) : Int) := rfl
  rw [← hn] at ho
  have HN := Lib.hid (num16_lt s k)
  generalize num16 s k = n at *
  generalize s.data.getD k 0 = x at *
  generalize s.data.getD (k + 1) 0 = y at *
  have hx := x.toNat_lt
  have hy := y.toNat_lt
  have w1 : wrap64 (x.toNat : Int) = x.toNat := wrap_in (by omega) (by omega)
  have w2 : wrap64 (y.toNat : Int) = y.toNat := wrap_in (by omega) (by omega)
  have w3 : wrap64 ((y.toNat : Int) * 256) = y.toNat * 256 := wrap_in (by omega) (by omega)
  clear h hn
  go_enter Tryz.func41, Tryz.ntmps41
  go_wp2
  go_quiet (fail)
  go_wp2
  go_ret
  exact ⟨rfl, ⟨rfl, rfl, rfl, Nat.le_refl _, fun _ _ _ => rfl⟩, rfl⟩

def homeB (n : Nat) (i : Int) : Bool := decide (48 ≤ i) && decide (i < n)

set_option maxHeartbeats 1000000 in
theorem isHome_any {w : World} {p : Nat} {vl vn vc : Value} {D : Dk} (h : IsDisk w p vl vn vc D) (i : Int) :
    Calls Tryz.prog 42 #[.pointer (some ⟨p, 0, none⟩), .int .i64 i] w fun e w' => e = .returned (.bool (homeB D.las.length i)) ∧ w = w' := by
  have H := Lib.hid h
  clear h
  by_cases hi : 48 ≤ i
  · go_enter Tryz.func42, Tryz.ntmps42
    go_wp2_with (go_at_call 18; refine (len_any H.out).mono ?_; rintro e w' ⟨rfl, rfl⟩)
    go_ret
    refine ⟨?_, rfl⟩
    simp [homeB, hi]
  · go_enter Tryz.func42, Tryz.ntmps42
    go_wp2
    go_ret
    refine ⟨?_, rfl⟩
    simp [homeB]
    omega

theorem SecAt.copied {w : World} {g : Nat} {s t : ByteArray} (h : SecAt w g s) (ht : t.size = 512) : SecAt (w.setCells g 0 (byteCells t)) g t := by
  have hl : (byteCells t).length = 512 := by rw [byteCells_length]; exact ht
  obtain ⟨cur', h1, h2⟩ := splice_heap g (byteCells t) 0 w _ _ _ h.1 (by rw [hl, secC_size, h.2]; omega)
  refine ⟨?_, ht⟩
  rw [h1]
  congr 2
  apply Array.ext'
  rw [h2]
  unfold splice
  rw [hl, List.take_zero, List.nil_append, List.drop_of_length_le (by rw [Array.length_toList, secC_size, h.2]; omega), List.append_nil]
  simp [secC]

theorem setCells_size (g : Nat) : ∀ (vs : List Value) (o : Nat) (w : World), (w.setCells g o vs).heap.size = w.heap.size
  | [], _, _ => rfl
  | v :: r, o, w => by
    show ((w.setCell ⟨g, o, none⟩ v).setCells g (o + 1) r).heap.size = _
    rw [setCells_size g r]; simp

theorem byteCells_one (s : ByteArray) : ∀ v ∈ byteCells s, v.oneCell' = true := by
  intro v hv
  simp only [byteCells, List.mem_map] at hv
  obtain ⟨b, _, rfl⟩ := hv
  rfl

section
variable {ops : Array Oper} {rest : List Oper} {o : Oper} {a : Act} {w : World} {Q : Exit → Act → World → Prop}

/-- 'copy(s[:], b)'. -/
theorem wpList_copy_sec (hg : o.guard = none) (d x : Operand) (ho : o.op = .call { callee := .builtin .copy, args := #[d, x], argTypes := #[35, 35] }) {g g2 off2 cap : Nat} {s t : ByteArray} {e : TypeId}
    (hd : a.eval d = .slice (some ⟨g, 0, none⟩) 512 512) (hx : a.eval x = .slice (some ⟨g2, off2, none⟩) 512 cap) (hS : SecAt w g s) (hR : Row w e 1 (.slice (some ⟨g2, off2, none⟩) 512 cap) 512 (byteCells t)) (ht : t.size = 512)
    (h : ∀ w', SecAt w' g t → Keep (fun b => b = g) w w' → w'.heap.size = w.heap.size → wpList Tryz.prog ops Q rest (a.put o.dst (.int .i64 512)) w') : wpList Tryz.prog ops Q (o :: rest) a w := by
  have hl : (byteCells t).length = 512 := by rw [byteCells_length]; exact ht
  refine wpList_copy_cells hg d x ho Tryz.underlying35 Tryz.infoU hd hx (byteCells t) (by rw [hl]; rfl) (fun j v hv => ?_) (fun j hj => ?_) (byteCells_one t) ?_
  · have hj : j < 512 := by rw [← hl]; exact (List.getElem?_eq_some_iff.1 hv).1
    rw [add_off, hR.cellAt j (by omega)]
    exact hv
  · rw [hl] at hj
    rw [Nat.zero_add]
    exact ⟨by rw [hS.cellAt j hj]; rfl, hS.free j⟩
  · rw [hl]
    exact h _ (hS.copied ht) (keep_setCells g _ _ _ (Keep.refl _ w) (.inl rfl)) (setCells_size ..)

end

theorem Keep.behind {F : Nat → Prop} {a b c : World} {g : Nat} (h : Keep F a b) (k : Keep (fun x => x = g) b c) (hg : a.heap.size ≤ g) : Keep F a c :=
  h.trans k (fun x hx => .inr (by rw [show x = g from hx]; exact hg))

theorem SecAt.beside {w w' : World} {g g' : Nat} {s : ByteArray} (h : SecAt w g s) (k : Keep (fun x => x = g') w w') (hne : g ≠ g') : SecAt w' g s := h.keep k hne

theorem SecAt.new1 (w : World) (o : Obj) (s : ByteArray) (h : s.size = 512) : SecAt ((w.alloc o).alloc (.cells (secC s) 53)) (w.heap.size + 1) s := by
  have := SecAt.new (w.alloc o) s h
  rwa [World.size_alloc] at this

theorem new_size {D : Dk} (h : D.Ok) {i : Nat} (hi : i < D.las.length) {s : ByteArray} (hs : D.new.getD i default = s) : s.size = 512 := by
  subst hs
  have hl : i < D.new.length := by rw [h.same]; exact hi
  rw [List.getD_eq_getElem?_getD, List.getElem?_eq_getElem hl]
  exact h.snew _ (List.getElem_mem _)

set_option maxHeartbeats 1000000 in
/-- A sector read. -/
theorem rd_any {w : World} {p : Nat} {vl vn vc : Value} {D : Dk} (h : IsDisk w p vl vn vc D) (i : Nat) (hi : i < D.las.length) (s : ByteArray) (hs : D.new.getD i default = s) :
    Calls Tryz.prog 20 #[.pointer (some ⟨p, 0, none⟩), .int .i64 (i : Int)] w fun e w' => e = .returned (secV s) ∧ Keep (fun _ => False) w w' := by
  have hz : s.size = 512 := new_size h.ok hi hs
  have HH := Lib.hid (IsDisk.keep (w' := (w.alloc (.cells (secC zeroSec) 53)).alloc (.cells (secC zeroSec) 53)) h (((Keep.refl (fun _ => False) w).alloc _).alloc _) (fun _ _ h => h))
  have HS := Lib.hid hs
  have S0 := Lib.hid ((SecAt.new w zeroSec zeroSec_size).alloc (.cells (secC zeroSec) 53))
  have S1 := Lib.hid (SecAt.new1 w (.cells (secC zeroSec) 53) zeroSec zeroSec_size)
  have K0 := Lib.hid (((Keep.refl (fun _ => False) w).alloc (.cells (secC zeroSec) 53)).alloc (.cells (secC zeroSec) 53))
  clear h hs
  go_enter Tryz.func20, Tryz.ntmps20
  go_wp2_with (first | (refine wpList_alloc_sec rfl rfl ?_) | (go_at_call 36; refine (read_sec HH.out i hi s HS.out).mono ?_; rintro e w1 ⟨cap, rfl, hr, hk, hz1⟩; have T0 := Lib.hid (S0.out.keep hk (fun h => h)); have T1 := Lib.hid (S1.out.keep hk (fun h => h)); have K1 := Lib.hid (K0.out.trans hk (fun _ h => h.elim)); simp only [World.size_alloc] at hr; have HR := Lib.hid hr; clear hr hk hz1) | (refine wpList_slice_sec rfl _ _ rfl _ 0 (by omega) rfl (.inl ⟨rfl, rfl⟩) ?_) | (refine wpList_copy_sec rfl _ _ rfl rfl rfl T1.out HR.out hz ?_; intro w2 h2 k2 z2; have U1 := Lib.hid h2; have U0 := Lib.hid (T0.out.beside k2 (by omega)); have K2 := Lib.hid (K1.out.behind k2 (by omega)); clear h2 k2 z2) | (refine wpList_load_sec rfl _ rfl _ s rfl U1.out ?_) | (refine wpList_store_sec rfl _ _ rfl _ zeroSec s rfl rfl U0.out hz ?_; intro w3 h3 k3 z3; have V0 := Lib.hid h3; have K3 := Lib.hid (K2.out.behind k3 (Nat.le_refl _)); clear h3 k3 z3))
  refine bodyPost_ret (results_cell_row rfl _ _ w.heap.size _ (secC s) _ _ rfl V0.out.1 Tryz.underlying53 rfl (by rw [secC_size, hz]; exact Tryz.infoSec)) rfl ?_
  exact ⟨rfl, K3.out⟩

end Go.Proofs.YtibmillfankjfaaGreatDoor
