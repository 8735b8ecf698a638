/- math/bits.Mul where the first factor is 1 and the second below 2^32; slices.Repeat of one string. -/
import Derived.Test.YtibmillfankjfaaGreatDoorDiskD
import Derived.Laws.Bits64b
namespace Go.Proofs.YtibmillfankjfaaGreatDoor
set_option maxRecDepth 100000
open Go.RowKit

theorem mask_small (n : Nat) (h : n < 4294967296) : bits .and .u64 (n : Int) 4294967295 = (n : Int) := by
  have h1 := bits_and_u64_nat n 4294967295 (by omega) (by omega)
  have e : n &&& 4294967295 = n := by rw [Nat.and_two_pow_sub_one_eq_mod n 32]; omega
  rw [e] at h1
  exact h1

set_option maxHeartbeats 400000 in
theorem mul64_one (n : Nat) (h : n < 4294967296) (w : World) :
    Calls Tryz.prog 53 #[.int .u64 1, .int .u64 n] w fun e w' => e = .returned (.tuple #[.int .u64 0, .int .u64 n]) ∧ w = w' := by
  have hm := mask_small n h
  have hd : (n : Int) / 4294967296 = 0 := by omega
  have h1 : bits .and .u64 1 4294967295 = 1 := by decide
  have h0 : bits .and .u64 0 4294967295 = 0 := by decide
  go_enter Tryz.func53, Tryz.ntmps53
  go_wp2
  go_ret2
  exact ⟨by simp, rfl⟩

set_option maxHeartbeats 400000 in
theorem mul_one_any (n : Nat) (h : n < 4294967296) (w : World) :
    Calls Tryz.prog 38 #[.int .u64 1, .int .u64 n] w fun e w' => e = .returned (.tuple #[.int .u64 0, .int .u64 n]) ∧ w = w' := by
  go_enter Tryz.func38, Tryz.ntmps38
  go_wp2_with (go_at_call 53; refine (mul64_one _ h _).mono ?_; rintro e w' ⟨rfl, rfl⟩)
  go_ret2
  exact ⟨rfl, rfl⟩

def emptyStr : ByteArray := ⟨#[]⟩

/-- The world behind k strings. -/
def RepAt (w : World) (s : ByteArray) (n : Nat) (v : Value) (k : Nat) (wr : World) : Prop :=
  Row wr 9 1 v n (List.replicate k (.string s) ++ List.replicate (n - k) (.string emptyStr)) ∧ Keep (fun _ => False) w wr ∧ (∀ b, v.ownBlock = some b → w.heap.size ≤ b)

theorem splice_rep {α : Type} (x y : α) (n k m : Nat) (h : k + m ≤ n) : splice (List.replicate k x ++ List.replicate (n - k) y) k (List.replicate m x) = List.replicate (k + m) x ++ List.replicate (n - (k + m)) y := by
  unfold splice
  rw [List.take_left' (by simp), List.length_replicate, List.drop_append, List.length_replicate, List.drop_replicate, List.drop_replicate, ← List.append_assoc, ← List.append_assoc, List.replicate_append_replicate]
  have e1 : k - (k + m) = 0 := by omega
  have e2 : n - k - (k + m - k) = n - (k + m) := by omega
  rw [e1, e2]
  simp

theorem RepAt.drew {w wr : World} {s : ByteArray} {n : Nat} {v : Value} {k : Nat} (h : RepAt w s n v k wr) : RepAt w s n v k wr.drew := ⟨h.1.drew, h.2.1.drew, h.2.2⟩

theorem RepAt.step {w wr : World} {s : ByteArray} {n : Nat} {g cap : Nat} {k m : Nat} (h : RepAt w s n (.slice (some ⟨g, 0, none⟩) n cap) k wr) (hm : k + m ≤ n) :
    RepAt w s n (.slice (some ⟨g, 0, none⟩) n cap) (k + m) (wr.setCells g k (List.replicate m (.string s))) := by
  obtain ⟨h1, h2, h3⟩ := h
  refine ⟨?_, keep_setCells g _ _ _ h2 (.inr (h3 g rfl)), h3⟩
  have := h1.setCells k (List.replicate m (.string s)) (by simpa using hm)
  rw [Nat.zero_add, splice_rep _ _ _ _ _ hm] at this
  exact this

theorem RepAt.src {w wr : World} {s : ByteArray} {n g cap k m : Nat} (h : RepAt w s n (.slice (some ⟨g, 0, none⟩) n cap) k wr) (hm : m ≤ k) (hk : k ≤ n) :
    ∀ j v, (List.replicate m (Value.string s))[j]? = some v → wr.cell? ((⟨g, 0, none⟩ : Addr).add j) = some v := by
  intro j v hv
  obtain ⟨hj, _⟩ := List.getElem?_eq_some_iff.1 hv
  simp only [List.length_replicate] at hj
  rw [add_off, h.1.cellAt j (by omega), List.getElem?_append_left (by simp; omega)]
  simp only [List.getElem?_replicate, hj, if_true] at hv
  simp [show j < k by omega]
  simpa using hv

theorem RepAt.dst {w wr : World} {s : ByteArray} {n g cap k m : Nat} (h : RepAt w s n (.slice (some ⟨g, 0, none⟩) n cap) k wr) (hm : k + m ≤ n) :
    ∀ j, j < (List.replicate m (Value.string s)).length → (wr.cell? ⟨g, k + j, none⟩).isSome = true ∧ wr.frozen? ⟨g, k + j, none⟩ = false := by
  intro j hj
  simp only [List.length_replicate] at hj
  obtain ⟨_, _, hv, hnc, _⟩ := h.1.slice
  simp only [Value.slice.injEq] at hv
  obtain ⟨_, _, rfl⟩ := hv
  have := h.1.there (k + j) (by omega)
  rwa [Nat.zero_add] at this

theorem Tryz.infoS1 : (Tryz.prog.info? 9).map (·.size) = some 1 := by kernel_rfl

set_option maxHeartbeats 1000000 in
theorem repeat_any {w : World} {v : Value} {s : ByteArray} (h : Row w 9 1 v 1 [.string s]) (n : Nat) (h1 : 1 ≤ n) (hn : n ≤ 1048576) :
    Calls Tryz.prog 17 #[v, .int .i64 n] w fun e w' => ∃ v', e = .returned v' ∧ Row w' 9 1 v' n (strs (List.replicate n s)) ∧ Keep (fun _ => False) w w' ∧ (∀ b, v'.ownBlock = some b → w.heap.size ≤ b ∧ b < w'.heap.size) := by
  have HR := Lib.hid h
  obtain ⟨gv, ov, cap, rfl, _, hcm⟩ := h.full (by omega)
  obtain ⟨i0, hi0, hz0, hz1, hz2⟩ := info_parts Tryz.infoS
  clear h
  unfold maxLen at hcm
  go_enter Tryz.func17, Tryz.ntmps17
  go_wp2_with (first | (go_at_call 38; refine (mul_one_any n (by omega) _).mono ?_; rintro e w' ⟨rfl, rfl⟩) | (at_make; go_loud (refine wpList_make_row rfl (.tmp 29) (.tmp 29) rfl Tryz.underlying49 hi0 hz0 hz1 hz2 n rfl rfl rfl rfl (by omega) (by simp [maxLen]; omega) ?mk)))
  case mk =>
    intro w1 hrow hk hlt
    have hz : (madeCells #[Value.string ⟨#[]⟩] n).toList = List.replicate n (.string emptyStr) := toList_madeCells_one _ n
    rw [hz] at hrow
    have H0 : RepAt w s n (.slice (some ⟨w.heap.size, 0, none⟩) n n) 0 w1 := ⟨by simpa using hrow, hk, fun b hb => by simp [Value.ownBlock] at hb; omega⟩
    have H1 := Lib.hid (H0.step (m := 1) (by omega))
    have HX := Lib.hid (HR.out.keep hk (fun _ _ h => h))
    have HD := Lib.hid (H0.dst (m := 1) (by omega))
    clear hrow hk hz H0
    go_wp2_with (refine wpList_copy_cells rfl (.tmp 31) (.tmp 32) rfl Tryz.underlying49 Tryz.infoS1 rfl rfl (List.replicate 1 (.string s)) (by simp [Nat.min_def]; omega) (by intro j u hu; rw [add_off]; match j, hu with | 0, hu => simp at hu; subst hu; exact HX.out.cellAt 0 (by omega)) HD.out (by simp [Value.oneCell']) ?_)
    go_wp2
    go_loopw [8] (fun i wr => ∃ k : Nat, 1 ≤ k ∧ k ≤ n ∧ i = .int .i64 k ∧ RepAt w s n (.slice (some ⟨w.heap.size, 0, none⟩) n n) k wr) (fun i _ => n - (intOf i).toNat)
    case atStart => exact ⟨1, by omega, by omega, rfl, H1.out⟩
    case round =>
      obtain ⟨k, hk1, hk2, rfl, hF⟩ := hrel
      have HF := Lib.hid hF
      clear hF
      by_cases hlt2 : k < n
      · obtain ⟨m, hm0, hmk, hmn, hmm⟩ : ∃ m, 0 < m ∧ m ≤ k ∧ k + m ≤ n ∧ (k ≤ m ∨ n - k ≤ m) := ⟨min k (n - k), by omega, by omega, by omega, by omega⟩
        have hnk : ¬ n = k := by omega
        have HQ := Lib.hid (HF.out.src hmk (by omega))
        have HP := Lib.hid (HF.out.dst hmn)
        go_wp2
        have hwr : IntKind.i64.wrap ((k : Int) + (m : Int)) = (k : Int) + (m : Int) := IntWalk.i64_in _ (by omega)
        go_region_law (refine step_copy_cells (b := w.heap.size) (off := k) (dLen := n - k) (dCap := n - k) (ad := ⟨w.heap.size, 0, none⟩) (sLen := k) (sCap := n) rfl (.tmp 41) (.tmp 44) rfl Tryz.underlying49 Tryz.infoS1 (by simp [go_sem]) (by simp [go_sem]) (List.replicate m (.string s)) (by simp [Nat.min_def]; split <;> omega) HQ.out HP.out (by simp [Value.oneCell']) ?_)
        clear hwr
        go_wp2
        go_simp
        refine ⟨⟨k + m, by omega, hmn, by omega, HF.out.drew.step hmn⟩, ?_⟩
        simp [intOf]
        omega
      · obtain rfl : k = n := by omega
        go_wp2
        go_ret
        have := HF.out.1
        simp only [Nat.sub_self, List.replicate_zero, List.append_nil] at this
        exact ⟨_, rfl, by simpa [strs] using this, HF.out.2.1, fun b hb => ⟨HF.out.2.2 b hb, this.lt hb⟩⟩

end Go.Proofs.YtibmillfankjfaaGreatDoor
