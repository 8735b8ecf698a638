/- The small world's tables (made by tools/genbase.py). -/
import Derived.Test.YtheaghgockafmaaGreatWdY
namespace Go.Proofs.YtheaghgockafmaaGreat.Wd
open Go.RowKit Go.Maps Go.Proofs.YtheaghgockafmaaGreat Go.Proofs.YtheaghgockafmaaGreat.Lin
set_option maxRecDepth 100000

def baseD : DbM := ⟨[⟨1, ⟨#[121, 97, 114, 100]⟩, 0, 0, 2, 3, 4, 5, 6, 0⟩, ⟨2, ⟨#[115, 104, 111, 112]⟩, 1, 0, 0, 0, 1, 0, 0, 0⟩, ⟨3, ⟨#[98, 97, 110, 107]⟩, 2, 0, 0, 7, 0, 1, 0, 0⟩, ⟨4, ⟨#[102, 111, 114, 103, 101]⟩, 3, 0, 1, 0, 0, 0, 0, 0⟩, ⟨5, ⟨#[104, 111, 117, 115, 101]⟩, 4, 30, 0, 1, 0, 0, 0, 0⟩, ⟨6, ⟨#[104, 97, 108, 108]⟩, 5, 0, 0, 0, 0, 0, 0, 1⟩, ⟨7, ⟨#[99, 97, 118, 101]⟩, 0, 0, 0, 0, 0, 3, 0, 0⟩],
  [⟨1, ⟨#[115, 119, 111, 114, 100]⟩, 1, 4, 20⟩, ⟨2, ⟨#[99, 111, 97, 116]⟩, 2, 2, 11⟩, ⟨3, ⟨#[111, 114, 101]⟩, 0, 0, 3⟩, ⟨4, ⟨#[97, 120, 101]⟩, 1, 6, 1⟩, ⟨5, ⟨#[103, 101, 109]⟩, 0, 0, 0⟩],
  [⟨1, ⟨#[114, 97, 116]⟩, 1, 4, 1, 40, 7⟩, ⟨2, ⟨#[111, 103, 114, 101]⟩, 7, 30, 9, 300, 90⟩],
  [⟨4, [3, 3]⟩],
  [⟨1, 3, 2, 15, 5⟩, ⟨2, 5, 1, 0, 0⟩],
  [⟨2, 50, [1, 2, 3]⟩]⟩
/-- Tables in memory, in blocks that w0 has not. -/
structure NdR (w0 : World) (d : Nat) (D : DbM) (w : World) : Prop where
  ex : ∃ P : Nat → Prop, DbAt P w d 0 D ∧ Keep (fun _ => False) w0 w ∧ ∀ b, P b → w0.heap.size ≤ b ∧ b < w.heap.size
theorem NdR.k {w0 w : World} {d : Nat} {D : DbM} (h : NdR w0 d D w) : Keep (fun _ => False) w0 w := by
  obtain ⟨P, _, h2, _⟩ := h.ex
  exact h2
theorem NdR.keep0 {w0 w w' : World} {d : Nat} {D : DbM} (h : NdR w0 d D w) (k : Keep (fun _ => False) w w') : NdR w0 d D w' := by
  obtain ⟨P, h1, h2, h3⟩ := h.ex
  exact ⟨⟨P, h1.keep k (fun _ _ e => e), h2.trans k (fun _ e => e.elim), fun b hb => ⟨(h3 b hb).1, Nat.lt_of_lt_of_le (h3 b hb).2 k.size⟩⟩⟩

theorem base_laid (w : World) : NdR w (w.heap.size + 1 + 1 + 1 + 1 + 1 + 1 + 1 + 1) baseD
    (((((((((w.alloc (.cells (flat roomC baseD.rooms).toArray 127)).alloc (.cells (flat protoC baseD.protos).toArray 133)).alloc (.cells (flat mobpC baseD.mobs).toArray 105)).alloc
      (.cells #[.int .i64 3, .int .i64 3] 3)).alloc (.cells #[.int .i64 4, .slice (some ⟨w.heap.size + 1 + 1 + 1, 0, none⟩) 2 2] 135)).alloc (.cells (flat questC baseD.quests).toArray 137)).alloc
      (.cells #[.int .i64 1, .int .i64 2, .int .i64 3] 3)).alloc (.cells #[.int .i64 2, .int .i64 50, .slice (some ⟨w.heap.size + 1 + 1 + 1 + 1 + 1 + 1, 0, none⟩) 3 3] 107)).alloc
      (.cells #[.slice (some ⟨w.heap.size, 0, none⟩) 7 7, .slice (some ⟨w.heap.size + 1, 0, none⟩) 5 5, .slice (some ⟨w.heap.size + 1 + 1, 0, none⟩) 2 2, .slice (some ⟨w.heap.size + 1 + 1 + 1 + 1, 0, none⟩) 1 1, .slice (some ⟨w.heap.size + 1 + 1 + 1 + 1 + 1, 0, none⟩) 2 2, .slice (some ⟨w.heap.size + 1 + 1 + 1 + 1 + 1 + 1 + 1, 0, none⟩) 1 1] 96)) := by
  obtain ⟨w1, h1⟩ : ∃ w1, w1 = w.alloc (.cells (flat roomC baseD.rooms).toArray 127) := ⟨_, rfl⟩
  have s1 : w1.heap.size = w.heap.size + 1 := by rw [h1]; simp
  have R1 : Rec w1 127 roomC 10 (.slice (some ⟨w.heap.size, 0, none⟩) 7 7) baseD.rooms := by rw [h1]; exact Row.made (flat roomC baseD.rooms).toArray _ 7 rfl (by simp [maxLen]) (by rfl)
  have k1 : Keep (fun _ => False) w w1 := by rw [h1]; exact (Keep.refl _ w).alloc _
  rw [← h1]; clear h1
  obtain ⟨w2, h2⟩ : ∃ w2, w2 = w1.alloc (.cells (flat protoC baseD.protos).toArray 133) := ⟨_, rfl⟩
  have s2 : w2.heap.size = w.heap.size + 1 + 1 := by rw [h2]; simp [s1]
  have R2 : Rec w2 133 protoC 5 (.slice (some ⟨w.heap.size + 1, 0, none⟩) 5 5) baseD.protos := by rw [h2]; exact Row.made (flat protoC baseD.protos).toArray _ 5 s1.symm (by simp [maxLen]) (by rfl)
  have k2 : Keep (fun _ => False) w1 w2 := by rw [h2]; exact (Keep.refl _ w1).alloc _
  rw [← h2]; clear h2
  obtain ⟨w3, h3⟩ : ∃ w3, w3 = w2.alloc (.cells (flat mobpC baseD.mobs).toArray 105) := ⟨_, rfl⟩
  have s3 : w3.heap.size = w.heap.size + 1 + 1 + 1 := by rw [h3]; simp [s2]
  have R3 : Rec w3 105 mobpC 7 (.slice (some ⟨w.heap.size + 1 + 1, 0, none⟩) 2 2) baseD.mobs := by rw [h3]; exact Row.made (flat mobpC baseD.mobs).toArray _ 2 s2.symm (by simp [maxLen]) (by rfl)
  have k3 : Keep (fun _ => False) w2 w3 := by rw [h3]; exact (Keep.refl _ w2).alloc _
  rw [← h3]; clear h3
  obtain ⟨w4, h4⟩ : ∃ w4, w4 = w3.alloc (.cells #[.int .i64 3, .int .i64 3] 3) := ⟨_, rfl⟩
  have s4 : w4.heap.size = w.heap.size + 1 + 1 + 1 + 1 := by rw [h4]; simp [s3]
  have R4 : Row w4 3 1 (.slice (some ⟨w.heap.size + 1 + 1 + 1, 0, none⟩) 2 2) 2 (icells [3, 3]) := by rw [h4]; exact Row.made #[.int .i64 3, .int .i64 3] _ 2 s3.symm (by simp [maxLen]) (by rfl)
  have k4 : Keep (fun _ => False) w3 w4 := by rw [h4]; exact (Keep.refl _ w3).alloc _
  rw [← h4]; clear h4
  obtain ⟨w5, h5⟩ : ∃ w5, w5 = w4.alloc (.cells #[.int .i64 4, .slice (some ⟨w.heap.size + 1 + 1 + 1, 0, none⟩) 2 2] 135) := ⟨_, rfl⟩
  have s5 : w5.heap.size = w.heap.size + 1 + 1 + 1 + 1 + 1 := by rw [h5]; simp [s4]
  have R5 : Rec w5 135 recC 2 (.slice (some ⟨w.heap.size + 1 + 1 + 1 + 1, 0, none⟩) 1 1) [((⟨4, [3, 3]⟩ : RecM), Value.slice (some ⟨w.heap.size + 1 + 1 + 1, 0, none⟩) 2 2)] := by rw [h5]; exact Row.made #[.int .i64 4, .slice (some ⟨w.heap.size + 1 + 1 + 1, 0, none⟩) 2 2] _ 1 s4.symm (by simp [maxLen]) (by rfl)
  have k5 : Keep (fun _ => False) w4 w5 := by rw [h5]; exact (Keep.refl _ w4).alloc _
  rw [← h5]; clear h5
  obtain ⟨w6, h6⟩ : ∃ w6, w6 = w5.alloc (.cells (flat questC baseD.quests).toArray 137) := ⟨_, rfl⟩
  have s6 : w6.heap.size = w.heap.size + 1 + 1 + 1 + 1 + 1 + 1 := by rw [h6]; simp [s5]
  have R6 : Rec w6 137 questC 5 (.slice (some ⟨w.heap.size + 1 + 1 + 1 + 1 + 1, 0, none⟩) 2 2) baseD.quests := by rw [h6]; exact Row.made (flat questC baseD.quests).toArray _ 2 s5.symm (by simp [maxLen]) (by rfl)
  have k6 : Keep (fun _ => False) w5 w6 := by rw [h6]; exact (Keep.refl _ w5).alloc _
  rw [← h6]; clear h6
  obtain ⟨w7, h7⟩ : ∃ w7, w7 = w6.alloc (.cells #[.int .i64 1, .int .i64 2, .int .i64 3] 3) := ⟨_, rfl⟩
  have s7 : w7.heap.size = w.heap.size + 1 + 1 + 1 + 1 + 1 + 1 + 1 := by rw [h7]; simp [s6]
  have R7 : Row w7 3 1 (.slice (some ⟨w.heap.size + 1 + 1 + 1 + 1 + 1 + 1, 0, none⟩) 3 3) 3 (icells [1, 2, 3]) := by rw [h7]; exact Row.made #[.int .i64 1, .int .i64 2, .int .i64 3] _ 3 s6.symm (by simp [maxLen]) (by rfl)
  have k7 : Keep (fun _ => False) w6 w7 := by rw [h7]; exact (Keep.refl _ w6).alloc _
  rw [← h7]; clear h7
  obtain ⟨w8, h8⟩ : ∃ w8, w8 = w7.alloc (.cells #[.int .i64 2, .int .i64 50, .slice (some ⟨w.heap.size + 1 + 1 + 1 + 1 + 1 + 1, 0, none⟩) 3 3] 107) := ⟨_, rfl⟩
  have s8 : w8.heap.size = w.heap.size + 1 + 1 + 1 + 1 + 1 + 1 + 1 + 1 := by rw [h8]; simp [s7]
  have R8 : Rec w8 107 shopC 3 (.slice (some ⟨w.heap.size + 1 + 1 + 1 + 1 + 1 + 1 + 1, 0, none⟩) 1 1) [((⟨2, 50, [1, 2, 3]⟩ : ShopM), Value.slice (some ⟨w.heap.size + 1 + 1 + 1 + 1 + 1 + 1, 0, none⟩) 3 3)] := by rw [h8]; exact Row.made #[.int .i64 2, .int .i64 50, .slice (some ⟨w.heap.size + 1 + 1 + 1 + 1 + 1 + 1, 0, none⟩) 3 3] _ 1 s7.symm (by simp [maxLen]) (by rfl)
  have k8 : Keep (fun _ => False) w7 w8 := by rw [h8]; exact (Keep.refl _ w7).alloc _
  rw [← h8]; clear h8
  obtain ⟨A, hA⟩ : ∃ A : Array Value, A = #[.slice (some ⟨w.heap.size, 0, none⟩) 7 7, .slice (some ⟨w.heap.size + 1, 0, none⟩) 5 5, .slice (some ⟨w.heap.size + 1 + 1, 0, none⟩) 2 2, .slice (some ⟨w.heap.size + 1 + 1 + 1 + 1, 0, none⟩) 1 1, .slice (some ⟨w.heap.size + 1 + 1 + 1 + 1 + 1, 0, none⟩) 2 2, .slice (some ⟨w.heap.size + 1 + 1 + 1 + 1 + 1 + 1 + 1, 0, none⟩) 1 1] := ⟨_, rfl⟩
  have hb := heap_alloc_new w8 (.cells A 96)
  rw [s8] at hb
  have k9 : Keep (fun _ => False) w8 (w8.alloc (.cells A 96)) := (Keep.refl _ w8).alloc _
  have s9 : (w8.alloc (.cells A 96)).heap.size = w.heap.size + 1 + 1 + 1 + 1 + 1 + 1 + 1 + 1 + 1 := by simp [s8]
  rw [← hA]
  generalize w8.alloc (.cells A 96) = w9 at *
  have f : ∀ {a b c : World}, Keep (fun _ => False) a b → Keep (fun _ => False) b c → Keep (fun _ => False) a c := fun x y => x.trans y (fun _ e => e.elim)
  have K8 := k9
  have K7 := f k8 K8
  have K6 := f k7 K7
  have K5 := f k6 K6
  have K4 := f k5 K5
  have K3 := f k4 K4
  have K2 := f k3 K3
  have K1 := f k2 K2
  refine ⟨⟨fun b => w.heap.size ≤ b ∧ b < w9.heap.size, ⟨_, _, _, _, _, _, _, _, lt_of_block hb, ?_, R1.keep K1 (fun _ _ e => e), R2.keep K2 (fun _ _ e => e), R3.keep K3 (fun _ _ e => e), ⟨R5.keep K5 (fun _ _ e => e), rfl, ?_⟩, R6.keep K6 (fun _ _ e => e), ⟨R8.keep K8 (fun _ _ e => e), rfl, ?_⟩, ?_, ?_, ?_, ?_⟩, f k1 K1, fun b hb => hb⟩⟩
  · intro j v hv
    rw [Nat.zero_add, cell_of_row w9 _ j _ _ _ hb, hA]
    simpa using hv
  · intro x hx
    obtain rfl := List.mem_singleton.1 hx
    exact Ints.of_row (R4.keep K4 (fun _ _ e => e))
  · intro x hx
    obtain rfl := List.mem_singleton.1 hx
    exact Ints.of_row (R7.keep K7 (fun _ _ e => e))
  · exact ⟨by (try dsimp only); omega, by (try dsimp only); omega⟩
  · intro v hv b hb
    simp only [List.mem_cons, List.not_mem_nil, or_false] at hv
    rcases hv with rfl | rfl | rfl | rfl | rfl | rfl <;> (cases hb; exact ⟨by (try dsimp only); omega, by (try dsimp only); omega⟩)
  · intro x hx b hb
    obtain rfl := List.mem_singleton.1 hx
    cases hb
    exact ⟨by (try dsimp only); omega, by (try dsimp only); omega⟩
  · intro x hx b hb
    obtain rfl := List.mem_singleton.1 hx
    cases hb
    exact ⟨by (try dsimp only); omega, by (try dsimp only); omega⟩
set_option maxHeartbeats 8000000 in
theorem base_any {w : World} : Calls Tryz.prog 27 #[] w fun e w' => ∃ d, e = .returned (.pointer (some ⟨d, 0, none⟩)) ∧ NdR w d baseD w' := by
  go_enter Tryz.func27, Tryz.ntmps27
  go_wp2
  go_ret
  exact ⟨_, rfl, base_laid w⟩
end Go.Proofs.YtheaghgockafmaaGreat.Wd
