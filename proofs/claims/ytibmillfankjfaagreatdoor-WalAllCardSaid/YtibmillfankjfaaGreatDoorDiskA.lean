/- The representation of a disk in memory, and what its small readers answer, at every disk. -/
import Derived.Test.YtibmillfankjfaaGreatDoorRow
namespace Go.Proofs.YtibmillfankjfaaGreatDoor
set_option maxRecDepth 100000
open Go.RowKit

/-- What a disk holds. -/
structure Dk where
  las : List ByteArray
  new : List ByteArray
  cache : List (Nat × ByteArray)
  writes : Int
  lim : Bool
  left : Int

def strs (l : List ByteArray) : List Value := l.map Value.string
def chg (l : List (Nat × ByteArray)) : List Value := l.flatMap fun x => [Value.int .i64 x.1, Value.string x.2]

theorem chg_length (l : List (Nat × ByteArray)) : (chg l).length = l.length * 2 := by
  induction l with
  | nil => rfl
  | cons x l ih => simp only [chg, List.flatMap_cons, List.length_append, List.length_cons, List.length_nil] at *; omega

/-- What holds of every disk that comes: every sector has 512 bytes, every write its sector. -/
structure Dk.Ok (D : Dk) : Prop where
  same : D.new.length = D.las.length
  pos : 0 < D.las.length
  inr : ∀ x ∈ D.cache, x.1 < D.las.length ∧ x.2.size = 512
  slas : ∀ s ∈ D.las, s.size = 512
  snew : ∀ s ∈ D.new, s.size = 512

/-- A disk at block p. -/
structure IsDisk (w : World) (p : Nat) (vl vn vc : Value) (D : Dk) : Prop where
  head : w.heap[p]? = some (.cells #[vl, vn, vc, .int .i64 D.writes, .bool D.lim, .int .i64 D.left] 79 (0, 0))
  las : Row w 9 1 vl D.las.length (strs D.las)
  new : Row w 9 1 vn D.new.length (strs D.new)
  cache : Row w 81 2 vc D.cache.length (chg D.cache)
  ok : D.Ok
  apart : vl.ownBlock ≠ vn.ownBlock

theorem IsDisk.cell {w : World} {p : Nat} {vl vn vc : Value} {D : Dk} (h : IsDisk w p vl vn vc D) (i : Nat) :
    w.cell? ⟨p, i, none⟩ = (#[vl, vn, vc, .int .i64 D.writes, .bool D.lim, .int .i64 D.left] : Array Value)[i]? := cell_of_row _ _ _ _ _ _ h.head
theorem IsDisk.same {w : World} {p : Nat} {vl vn vc : Value} {D : Dk} (h : IsDisk w p vl vn vc D) : D.new.length = D.las.length := h.ok.same
theorem IsDisk.pos {w : World} {p : Nat} {vl vn vc : Value} {D : Dk} (h : IsDisk w p vl vn vc D) : 0 < D.las.length := h.ok.pos
theorem IsDisk.free {w : World} {p : Nat} {vl vn vc : Value} {D : Dk} (h : IsDisk w p vl vn vc D) (i : Nat) : w.frozen? ⟨p, i, none⟩ = false := frozen_of_row _ _ _ _ _ h.head

def deadB (D : Dk) : Bool := D.lim && (D.left == 0)

set_option maxHeartbeats 400000 in
theorem len_any {w : World} {p : Nat} {vl vn vc : Value} {D : Dk} (h : IsDisk w p vl vn vc D) :
    Calls Tryz.prog 18 #[.pointer (some ⟨p, 0, none⟩)] w fun e w' => e = .returned (.int .i64 D.las.length) ∧ w = w' := by
  obtain ⟨a, cap, rfl, _, _⟩ := h.las.slice
  have h0 := h.cell 0
  simp only [List.getElem?_toArray, List.getElem?_cons_zero] at h0
  clear h
  go_enter Tryz.func18, Tryz.ntmps18
  go_wp2
  go_ret
  exact ⟨rfl, rfl⟩

set_option maxHeartbeats 400000 in
theorem len_nil {w : World} :
    Calls Tryz.prog 18 #[.pointer none] w fun e w' => e = .returned (.int .i64 0) ∧ w = w' := by
  go_enter Tryz.func18, Tryz.ntmps18
  go_wp2
  go_ret
  exact ⟨rfl, rfl⟩

theorem dead_nil {w : World} :
    Calls Tryz.prog 23 #[.pointer none] w fun e w' => e = .returned (.bool true) ∧ w = w' := by
  go_enter Tryz.func23, Tryz.ntmps23
  go_wp2
  go_ret
  exact ⟨rfl, rfl⟩

set_option maxHeartbeats 400000 in
theorem dead_any {w : World} {p : Nat} {vl vn vc : Value} {D : Dk} (h : IsDisk w p vl vn vc D) :
    Calls Tryz.prog 23 #[.pointer (some ⟨p, 0, none⟩)] w fun e w' => e = .returned (.bool (deadB D)) ∧ w = w' := by
  have h4 := h.cell 4
  have h5 := h.cell 5
  simp only [List.getElem?_toArray, List.getElem?_cons_zero, List.getElem?_cons_succ] at h4 h5
  clear h
  unfold deadB
  obtain ⟨las, new, cache, writes, lim, left⟩ := D
  cases lim
  · go_enter Tryz.func23, Tryz.ntmps23
    go_wp2
    go_ret
    exact ⟨rfl, rfl⟩
  · go_enter Tryz.func23, Tryz.ntmps23
    go_wp2
    go_ret
    exact ⟨by simp, rfl⟩

set_option maxHeartbeats 400000 in
theorem writes_any {w : World} {p : Nat} {vl vn vc : Value} {D : Dk} (h : IsDisk w p vl vn vc D) :
    Calls Tryz.prog 26 #[.pointer (some ⟨p, 0, none⟩)] w fun e w' => e = .returned (.int .i64 D.writes) ∧ w = w' := by
  have h4 := h.cell 3
  simp only [List.getElem?_toArray, List.getElem?_cons_zero, List.getElem?_cons_succ] at h4
  clear h
  go_enter Tryz.func26, Tryz.ntmps26
  go_wp2
  go_ret
  exact ⟨rfl, rfl⟩

theorem writes_nil {w : World} :
    Calls Tryz.prog 26 #[.pointer none] w fun e w' => e = .returned (.int .i64 0) ∧ w = w' := by
  go_enter Tryz.func26, Tryz.ntmps26
  go_wp2
  go_ret
  exact ⟨rfl, rfl⟩

def hasB (n : Nat) (i : Int) : Bool := decide (0 ≤ i ∧ i < n)

set_option maxHeartbeats 400000 in
theorem has_any {w : World} {p : Nat} {vl vn vc : Value} {D : Dk} (h : IsDisk w p vl vn vc D) (i : Int) :
    Calls Tryz.prog 49 #[.pointer (some ⟨p, 0, none⟩), .int .i64 i] w fun e w' => e = .returned (.bool (hasB D.las.length i)) ∧ w = w' := by
  have H := Lib.hid h
  clear h
  by_cases hi : 0 ≤ i
  · go_enter Tryz.func49, Tryz.ntmps49
    go_wp2_with (go_at_call 18; refine (len_any H.out).mono ?_; rintro e w' ⟨rfl, rfl⟩)
    go_ret
    refine ⟨?_, rfl⟩
    simp [hasB, hi]
  · go_enter Tryz.func49, Tryz.ntmps49
    go_wp2
    go_ret
    refine ⟨?_, rfl⟩
    simp [hasB]
    omega

set_option maxHeartbeats 400000 in
theorem has_nil {w : World} (i : Int) :
    Calls Tryz.prog 49 #[.pointer none, .int .i64 i] w fun e w' => e = .returned (.bool false) ∧ w = w' := by
  by_cases hi : 0 ≤ i
  · go_enter Tryz.func49, Tryz.ntmps49
    go_wp2_with (go_at_call 18; refine (len_nil).mono ?_; rintro e w' ⟨rfl, rfl⟩)
    go_ret
    refine ⟨?_, rfl⟩
    simp; omega
  · go_enter Tryz.func49, Tryz.ntmps49
    go_wp2
    go_ret
    exact ⟨rfl, rfl⟩

end Go.Proofs.YtibmillfankjfaaGreatDoor
