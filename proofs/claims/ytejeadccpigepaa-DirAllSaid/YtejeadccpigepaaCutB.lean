/- bytes: what stands ahead of the first zero; are two rows of bytes the same. -/
import Derived.Test.YtejeadccpigepaaPack
import Derived.Lib.BytesEntry
import Derived.IntWalk
namespace Go.Proofs.Ytejeadccpigepaa.Dir
open Go.RowKit Go.Maps Go.Proofs.Ytejeadccpigepaa Go.Proofs.Ytejeadccpigepaa.Ino
set_option maxRecDepth 100000

theorem bytesOf_nat (l : List UInt8) : Lib.bytesOf (l.map fun x => (x.toNat : Int)) = l := by
  unfold Lib.bytesOf
  rw [List.map_map]
  conv => rhs; rw [← List.map_id l]
  apply List.map_congr_left
  intro x _
  simp

/-- Where the first zero stands. -/
theorem indexByte_name (nm : List UInt8) (m : Nat) (h : ∀ c ∈ nm, c ≠ 0) : Lib.indexByte (nm ++ List.replicate m 0) 0 = if m = 0 then -1 else (nm.length : Int) := by
  induction nm with
  | nil =>
    cases m with
    | zero => rfl
    | succ m => rw [List.nil_append, List.replicate_succ, Lib.indexByte]; simp
  | cons c r ih =>
    have hc : (c == 0) = false := by simpa using h c (List.mem_cons_self ..)
    rw [List.cons_append, Lib.indexByte, hc, ih (fun x hx => h x (List.mem_cons_of_mem _ hx))]
    by_cases hm : m = 0
    · simp [hm]
    · rw [if_neg hm, if_neg hm]
      simp only [Bool.false_eq_true, if_false]
      rw [if_neg (by simp)]
      simp

set_option maxHeartbeats 1000000 in
theorem bindexByte_any {w : World} (b o n c : Nat) (l : List UInt8) (hn : l.length = n) (hc : ∀ i, i < n → w.cell? ⟨b, o + i, none⟩ = some (.int .u8 ((l.getD i 0).toNat : Int))) :
    Calls Try.prog 61 #[.slice (some ⟨b, o, none⟩) n c, .int .u8 0] w fun e w' => e = .returned (.int .i64 (Lib.indexByte l 0)) ∧ w = w' := by
  have hr := Lib.run_indexByteSlice (P := Try.prog) w b o n c (l.map fun x => (x.toNat : Int)) (by simpa using hn) (fun i hi => by
    rw [hc i hi]; simp [List.getD_eq_getElem?_getD, List.getElem?_map, List.getElem?_eq_getElem (show i < l.length by omega)]) 0
  rw [bytesOf_nat] at hr
  have HR := Lib.hid hr
  clear hr hc
  go_enter Try.func61, Try.ntmps61
  go_wp2
  rw [run_callFunc_extern Try.func72 (by kernel_rfl) (by kernel_rfl) (by kernel_rfl) (e := Extern.BytealgIndexByte.indexByte) (by kernel_rfl), HR.out]
  simp only [Result.andThen]
  rw [Oper.upon_value]
  go_wp2
  go_ret
  exact ⟨rfl, rfl⟩

set_option maxHeartbeats 1000000 in
theorem bindex_any {w : World} (b o n c b2 : Nat) (l : List UInt8) (hn : l.length = n) (hc : ∀ i, i < n → w.cell? ⟨b, o + i, none⟩ = some (.int .u8 ((l.getD i 0).toNat : Int))) (hc2 : w.cell? ⟨b2, 0, none⟩ = some (.int .u8 0)) :
    Calls Try.prog 50 #[.slice (some ⟨b, o, none⟩) n c, .slice (some ⟨b2, 0, none⟩) 1 1] w fun e w' => e = .returned (.int .i64 (Lib.indexByte l 0)) ∧ w = w' := by
  have HI := Lib.hid (bindexByte_any b o n c l hn hc)
  clear hc hn
  go_enter Try.func50, Try.ntmps50
  go_wp2_with (go_at_call 61; refine HI.out.mono ?_; rintro e w' ⟨rfl, rfl⟩)
  go_ret
  exact ⟨rfl, rfl⟩

/-- Cut at the first zero: what stands ahead of it. -/
structure CutR (b o c : Nat) (k : Nat) (w : World) (e : Ending) (w' : World) : Prop where
  ex : ∃ v2 v3, e = .returned (.tuple #[.slice (some ⟨b, o, none⟩) k c, v2, .bool v3]) ∧ Keep (fun _ => False) w w'

set_option maxHeartbeats 1000000 in
theorem bcut_any {w : World} (b o n c b2 : Nat) (nm : List UInt8) (m : Nat) (h0 : ∀ x ∈ nm, x ≠ 0) (hn : nm.length + m = n) (hcn : n ≤ c) (hcm : c ≤ maxLen) (hc : ∀ i, i < n → w.cell? ⟨b, o + i, none⟩ = some (.int .u8 (((nm ++ List.replicate m 0).getD i 0).toNat : Int))) (hc2 : w.cell? ⟨b2, 0, none⟩ = some (.int .u8 0)) :
    Calls Try.prog 39 #[.slice (some ⟨b, o, none⟩) n c, .slice (some ⟨b2, 0, none⟩) 1 1] w fun e w' => CutR b o c nm.length w e w' := by
  have hi := bindex_any b o n c b2 (nm ++ List.replicate m 0) (by simp; omega) hc hc2
  rw [indexByte_name nm m h0] at hi
  unfold maxLen at hcm
  by_cases hm : m = 0
  · subst hm
    rw [if_pos rfl] at hi
    obtain rfl : nm.length = n := by omega
    have HI := Lib.hid hi
    clear hi hc
    go_enter Try.func39, Try.ntmps39
    go_wp2_with (go_at_call 50; refine HI.out.mono ?_; rintro e w' ⟨rfl, rfl⟩)
    go_ret3
    exact ⟨_, _, rfl, Keep.refl _ _⟩
  · rw [if_neg hm] at hi
    have HI := Lib.hid hi
    obtain ⟨k, hk⟩ : ∃ k, k = nm.length := ⟨_, rfl⟩
    rw [← hk] at HI ⊢
    have hk1 : k < n := by omega
    have hz0 : IntKind.i64.wrap ((k : Int) + 1) = (k : Int) + 1 := IntWalk.i64_in _ (by omega)
    have hk2 : (0 : Int) ≤ (k : Int) := by omega
    have hk3 : (k : Int) ≤ (n : Int) := by omega
    have hk4 : (0 : Int) ≤ (k : Int) + 1 := by omega
    have hk5 : (k : Int) + 1 ≤ (n : Int) := by omega
    clear hi hc hm hk h0 hn
    go_enter Try.func39, Try.ntmps39
    go_wp2_with (go_at_call 50; refine HI.out.mono ?_; rintro e w' ⟨rfl, rfl⟩)
    go_region
    all_goals go_wp2
    all_goals
      go_ret3
      exact ⟨_, _, rfl, (Keep.refl _ _).drew⟩

set_option maxHeartbeats 1000000 in
theorem bequal_any {w : World} {v1 v2 : Value} {n1 : Nat} {l1 : List UInt8} (h1 : Row w 5 1 v1 n1 (bcells l1)) (e1 : l1.length = n1) {s2 : ByteArray} (h2 : (convert 71 9 v2).run Try.prog w = .ok (.string s2) w) (hs : s2.data.toList = l1) :
    Calls Try.prog 40 #[v1, v2] w fun e w' => e = .returned (.bool true) ∧ w = w' := by
  have q1 := str_row h1 e1
  obtain ⟨s1, hs1⟩ : ∃ s1 : ByteArray, s1 = ⟨l1.toArray⟩ := ⟨_, rfl⟩
  have hss : s1 = s2 := by rw [hs1, ← hs]
  rw [← hs1, hss] at q1
  clear h1 e1 hs1 hss hs
  go_enter Try.func40, Try.ntmps40
  go_wp2
  go_ret
  exact ⟨rfl, rfl⟩

end Go.Proofs.Ytejeadccpigepaa.Dir
