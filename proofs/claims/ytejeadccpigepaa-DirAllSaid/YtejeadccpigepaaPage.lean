/- Files on blocks: numbers as bytes; what an indirect block holds. -/
import Derived.Test.YtejeadccpigepaaTabB
namespace Go.Proofs.Ytejeadccpigepaa.Ino
open Go.RowKit Go.Maps Go.Proofs.Ytejeadccpigepaa
set_option maxRecDepth 100000

theorem needs_lo {w : World} (v : Value) (hv : ∃ g, v = .pointer (some ⟨g, 0, none⟩)) (k a b : Nat) (hk : k < 200) :
    Calls Try.prog 51 #[v, .int .i64 (k : Int), .int .i64 (a : Int), .int .i64 (b : Int)] w fun e w' => e = .returned (.bool (decide (a ≤ k ∧ k < b))) ∧ w = w' := by
  obtain ⟨g, rfl⟩ := hv
  have h1 : decide ((k : Int) < 200) = true := by rw [decide_eq_true_eq]; omega
  by_cases h2 : a ≤ k
  · by_cases h3 : k < b
    · have e : decide (a ≤ k ∧ k < b) = true := by simp [h2, h3]
      rw [e]
      go_enter Try.func51, Try.ntmps51
      go_wp2
      go_ret
      exact ⟨rfl, rfl⟩
    · have e : decide (a ≤ k ∧ k < b) = false := by simp [h3]
      rw [e]
      go_enter Try.func51, Try.ntmps51
      go_wp2
      go_ret
      exact ⟨rfl, rfl⟩
  · have e : decide (a ≤ k ∧ k < b) = false := by simp [h2]
    rw [e]
    go_enter Try.func51, Try.ntmps51
    go_wp2
    go_ret
    exact ⟨rfl, rfl⟩

theorem needs_hi {w : World} {g : Nat} {T : List Nat} (hT : T.length = 203) (hc : w.rangeAt g 0 (tabL T)) (k : Nat) (hk : k = 200 ∨ k = 201 ∨ k = 202) (v1 v2 : Value) :
    Calls Try.prog 51 #[.pointer (some ⟨g, 0, none⟩), .int .i64 (k : Int), v1, v2] w fun e w' => e = .returned (.bool (usedB T k)) ∧ w = w' := by
  have HU := Lib.hid (used_any hT hc k hk)
  have h1 : ¬ (k : Int) < 200 := by omega
  clear hc
  go_enter Try.func51, Try.ntmps51
  go_wp2_with (go_at_call 65; refine HU.out.mono ?_; rintro e w' ⟨rfl, rfl⟩)
  go_ret
  exact ⟨rfl, rfl⟩

def le32 (n : Nat) : List UInt8 := [UInt8.ofNat n, UInt8.ofNat (n / 256), UInt8.ofNat (n / 65536), UInt8.ofNat (n / 16777216)]

theorem u8_cell (x : Nat) : Value.int .u8 (((UInt8.ofNat x).toNat : Nat) : Int) = .int .u8 ((x : Int) % 256) := by
  rw [UInt8.toNat_ofNat']; norm_cast

theorem le32_set {x : Nat} (hx : x < 4294967296) {xs : List Value} (h : 4 ≤ xs.length) :
    (((xs.set 0 (.int .u8 ((x : Int) % 256))).set 1 (.int .u8 ((x : Int) / 256 % 256))).set 2 (.int .u8 ((x : Int) / 65536 % 256))).set 3 (.int .u8 ((x : Int) / 16777216)) = bcells (le32 x) ++ xs.drop 4 := by
  match xs, h with
  | a :: b :: c :: d :: r, _ =>
    simp only [List.set_cons_zero, List.set_cons_succ, bcells, le32, List.map_cons, List.map_nil, List.cons_append, List.nil_append, List.drop_succ_cons, List.drop_zero, u8_cell]
    have e1 : ((x / 256 : Nat) : Int) % 256 = (x : Int) / 256 % 256 := by omega
    have e2 : ((x / 65536 : Nat) : Int) % 256 = (x : Int) / 65536 % 256 := by omega
    have e3 : ((x / 16777216 : Nat) : Int) % 256 = (x : Int) / 16777216 := by omega
    rw [e1, e2, e3]

/-- What put32 leaves. -/
def put4 (w : World) (g off x : Nat) : World := ((((w.setCell ⟨g, off, none⟩ (.int .u8 ((x : Int) % 256))).setCell ⟨g, off + 1, none⟩ (.int .u8 ((x : Int) / 256 % 256))).setCell ⟨g, off + 2, none⟩ (.int .u8 ((x : Int) / 65536 % 256))).setCell ⟨g, off + 3, none⟩ (.int .u8 ((x : Int) / 16777216)))

theorem put4_keep (w : World) (g off x : Nat) : Keep (fun b => b = g) w (put4 w g off x) := ((((Keep.refl (fun b => b = g) w).setCell _ _ (.inl rfl)).setCell _ _ (.inl rfl)).setCell _ _ (.inl rfl)).setCell _ _ (.inl rfl)

theorem set_behind {α : Type} (A B : List α) (i : Nat) (v : α) : (A ++ B).set (A.length + i) v = A ++ B.set i v := by
  rw [List.set_append_right _ _ (by omega)]; congr 2; omega

theorem put4_heap {w : World} {g x : Nat} (hx : x < 4294967296) {A B : List Value} {t : TypeId} {f : Nat × Nat} (h : w.heap[g]? = some (.cells (A ++ B).toArray t f)) (hB : 4 ≤ B.length) :
    (put4 w g A.length x).heap[g]? = some (.cells (A ++ (bcells (le32 x) ++ B.drop 4)).toArray t f) := by
  have h4 := heap_setCell_at (i := A.length + 3) (.int .u8 ((x : Int) / 16777216)) (heap_setCell_at (i := A.length + 2) (.int .u8 ((x : Int) / 65536 % 256)) (heap_setCell_at (i := A.length + 1) (.int .u8 ((x : Int) / 256 % 256)) (heap_setCell_at (i := A.length) (.int .u8 ((x : Int) % 256)) h)))
  unfold put4
  rw [h4, ← le32_set hx hB]
  simp only [List.setIfInBounds_toArray]
  rw [show ∀ v, (A ++ B).set A.length v = A ++ B.set 0 v from fun v => set_behind A B 0 v, set_behind, set_behind, set_behind]

set_option maxHeartbeats 1000000 in
theorem put32_any {w : World} {g off n c : Nat} {t : TypeId} {xs : List Value} (h : Row w t 1 (.slice (some ⟨g, off, none⟩) n c) n xs) (hn : 4 ≤ n) (x : Nat) (hx : x < 4294967296) :
    Calls Try.prog 78 #[.slice (some ⟨g, off, none⟩) n c, .int .u32 (x : Int)] w fun e w' => e = .returned (.tuple #[]) ∧ w' = put4 w g off x := by
  have hc : n ≤ c := by
    obtain ⟨a, cap, e, h1, _⟩ := h.slice
    simp only [Value.slice.injEq] at e
    omega
  obtain ⟨t0, f0⟩ := h.there 0 (by omega)
  obtain ⟨t1, f1⟩ := h.there 1 (by omega)
  obtain ⟨t2, f2⟩ := h.there 2 (by omega)
  obtain ⟨t3, f3⟩ := h.there 3 (by omega)
  obtain ⟨v0, c0⟩ := Option.isSome_iff_exists.1 t0
  obtain ⟨v1, c1⟩ := Option.isSome_iff_exists.1 t1
  obtain ⟨v2, c2⟩ := Option.isSome_iff_exists.1 t2
  obtain ⟨v3, c3⟩ := Option.isSome_iff_exists.1 t3
  rw [Nat.add_zero] at c0 f0
  clear h t0 t1 t2 t3
  go_enter Try.func78, Try.ntmps78
  go_wp2
  go_end0
  exact ⟨rfl, rfl⟩

theorem Try.infoU1 : (Try.prog.info? 5).map (·.size) = some 1 := by kernel_rfl

theorem slBlkLo (g k : Nat) (hk : k < 512) (w : World) : (Instr.sliceAt 85 (.pointer (some ⟨g, 0, none⟩)) (some (.int .i64 (k : Int))) none none).run Try.prog w = .ok (.slice (some ⟨g, k, none⟩) (512 - k) (512 - k)) w := by
  obtain ⟨i, hi, hsz⟩ := Option.map_eq_some_iff.1 Try.infoU1
  have hru : (sizeOf 5).run Try.prog w = .ok 1 w := by simp [sizeOf, run_typeInfo w hi, hsz]
  have h1 : (0 : Int) ≤ (k : Int) ∧ (k : Int) ≤ ((512 : Nat) : Int) := by omega
  have h3 : ¬ 512 = k := by omega
  simp only [Instr.sliceAt, Sem.run_bind, run_underlying Try.underlying85, Instr.sureAddr, Instr.sliceBounds, Sem.run_pure, Result.andThen_ok, Instr.sliceBound, asIntOf, if_pos h1, hru, Int.toNat_natCast, if_neg h3, Addr.add, Nat.mul_one, Nat.zero_add]
  by_cases hk0 : k = 0 <;> simp [hk0]

/-- What an indirect block holds that names these numbers. -/
def pgL (L : List Nat) : List UInt8 := L.flatMap le32

theorem pgL_length (L : List Nat) : (pgL L).length = 4 * L.length := by
  induction L with
  | nil => rfl
  | cons x L ih => simp only [pgL, List.flatMap_cons, List.length_append, List.length_cons] at *; rw [ih]; simp [le32]; omega

def page (T : List Nat) (k : Nat) : List UInt8 := pgL (namedL T k) ++ List.replicate (512 - 4 * (namedL T k).length) 0

/-- While page fills its block. -/
structure Paging (w : World) (Z : Array Value) (L : List Nat) (k : Nat) (wr : World) : Prop where
  at_ : wr.heap[w.heap.size + 1]? = some (.cells (bcells (pgL (L.take k)) ++ bcells (List.replicate (512 - 4 * k) 0)).toArray 85 (0, 0))
  res : wr.heap[w.heap.size]? = some (.cells Z 85 (0, 0))
  keep : Keep (fun _ => False) w wr

theorem bcells_append (a b : List UInt8) : bcells (a ++ b) = bcells a ++ bcells b := by simp [bcells]

theorem Paging.start {w : World} {Z : Array Value} (L : List Nat) (hZ : Z = blkC zero512) : Paging w Z L 0 ((w.alloc (.cells Z 85)).alloc (.cells Z 85)) := by
  refine ⟨?_, heap_past (heap_alloc_new w _), ((Keep.refl _ w).alloc _).alloc _⟩
  have := heap_alloc_new (w.alloc (.cells Z 85)) (.cells Z 85)
  simp only [World.size_alloc] at this
  rw [this, hZ]
  rfl

theorem Paging.row {w wr : World} {Z : Array Value} {L : List Nat} {k : Nat} (h : Paging w Z L k wr) (hk : k < L.length) (hL : L.length ≤ 128) :
    Row wr 85 1 (.slice (some ⟨w.heap.size + 1, 4 * k, none⟩) (512 - 4 * k) (512 - 4 * k)) (512 - 4 * k) (bcells (List.replicate (512 - 4 * k) 0)) := by
  have hl : (bcells (pgL (L.take k))).length = 4 * k := by rw [bcells_length, pgL_length, List.length_take]; omega
  refine ⟨by simp [bcells_length], .inr ⟨_, _, _, _, 0, 0, rfl, h.at_, Nat.le_refl _, by unfold maxLen; omega, ?_, .inl (Nat.le_refl _), ?_⟩⟩
  · simp only [List.size_toArray, List.length_append, hl, bcells_length, List.length_replicate]; omega
  · simp only
    rw [← hl, List.drop_left, List.take_of_length_le (by rw [bcells_length, List.length_replicate]; omega)]

theorem Paging.step {w wr : World} {Z : Array Value} {L : List Nat} {k : Nat} (h : Paging w Z L k wr) (hk : k < L.length) (hL : L.length ≤ 128) (hx : L[k] < 4294967296) : Paging w Z L (k + 1) (put4 wr (w.heap.size + 1) (4 * k) L[k]) := by
  have hl : (bcells (pgL (L.take k))).length = 4 * k := by rw [bcells_length, pgL_length, List.length_take]; omega
  have kp := put4_keep wr (w.heap.size + 1) (4 * k) L[k]
  have hp := put4_heap hx h.at_ (by rw [bcells_length, List.length_replicate]; omega)
  rw [hl] at hp
  refine ⟨?_, (kp.block _ (lt_of_block h.res) (by omega)).trans h.res, h.keep.trans kp (fun x e => .inr (by omega))⟩
  have e1 : (bcells (List.replicate (512 - 4 * k) 0)).drop 4 = bcells (List.replicate (512 - 4 * (k + 1)) 0) := by
    unfold bcells
    rw [← List.map_drop, List.drop_replicate, show 512 - 4 * k - 4 = 512 - 4 * (k + 1) by omega]
  have e2 : pgL (L.take (k + 1)) = pgL (L.take k) ++ le32 L[k] := by
    rw [List.take_succ_eq_append_getElem hk]
    simp only [pgL, List.flatMap_append, List.flatMap_cons, List.flatMap_nil, List.append_nil]
  rw [hp, e1, e2, bcells_append, List.append_assoc]

theorem Paging.done {w wr : World} {Z : Array Value} {L T : List Nat} {k j : Nat} (h : Paging w Z L j wr) (hj : j = L.length) (hL : L = namedL T k) (hl : L.length ≤ 128) : wr.heap[w.heap.size + 1]? = some (.cells (blkC (page T k)) 85 (0, 0)) ∧ (blkC (page T k)).size = 512 := by
  have h1 := h.at_
  rw [hj, List.take_length, ← bcells_append, hL] at h1
  refine ⟨h1, ?_⟩
  rw [blkC_size, page, List.length_append, pgL_length, List.length_replicate, ← hL]
  omega

structure PageR (w : World) (Z : Array Value) (L : List Nat) (iv : Value) (wr : World) : Prop where
  ex : ∃ k : Nat, k ≤ L.length ∧ iv = .int .i64 (k : Int) ∧ Paging w Z L k wr

set_option maxHeartbeats 4000000 in
theorem page_any {w : World} {g off : Nat} (ho : off = 0 ∨ off = 2) {T : List Nat} (hT : T.length = 203) (hfit : ∀ x ∈ T, x < 4294967296) (hc : w.rangeAt g off (tabL T)) (k : Nat) (hk : k = 200 ∨ k = 201 ∨ k = 202) (z : Int) (hz : z = (k : Int)) :
    Calls Try.prog 68 #[.pointer (some ⟨g, off, none⟩), .int .i64 z] w fun e w' => e = .returned (.agg (blkC (page T k))) ∧ Keep (fun _ => False) w w' := by
  obtain ⟨Z, hzv, hz5, hz1, HZ⟩ := z512
  have hwin := tabL_window hc (namedFrom k) (namedTo k - namedFrom k)
  have hln := namedL_length hT hk
  obtain ⟨L, hL⟩ : ∃ L, L = namedL T k := ⟨_, rfl⟩
  have HLL := Lib.hid hL
  have hLf : ∀ x ∈ L, x < 4294967296 := fun x hx => hfit x (by rw [hL] at hx; exact List.mem_of_mem_drop (List.mem_of_mem_take hx))
  rw [← hL] at hln
  have hwin : w.rangeAt g (off + namedFrom k) (tabL L) := by rw [hL]; exact hwin
  have HW := Lib.hid hwin; have HF := Lib.hid hLf
  have H0 := Lib.hid (Paging.start (w := w) L HZ.out)
  clear hc hwin hL hfit hLf hT
  rcases ho with rfl | rfl <;> rcases hk with rfl | rfl | rfl
  all_goals
    first | (obtain rfl : z = 200 := hz) | (obtain rfl : z = 201 := hz) | (obtain rfl : z = 202 := hz)
    first | have hl9 : L.length = 128 := hln | have hl9 : L.length = 64 := hln | have hl9 : L.length = 1 := hln
    first | have hw9 : w.rangeAt g 8 (tabL L) := HW.out | have hw9 : w.rangeAt g 136 (tabL L) := HW.out | have hw9 : w.rangeAt g 201 (tabL L) := HW.out | have hw9 : w.rangeAt g 10 (tabL L) := HW.out | have hw9 : w.rangeAt g 138 (tabL L) := HW.out | have hw9 : w.rangeAt g 203 (tabL L) := HW.out
    have HW9 := Lib.hid hw9
    clear hwin HW hln hw9
    go_enter Try.func68, Try.ntmps68
    go_wp2
    go_loopw [21] (fun i wr => PageR w Z L i wr) (fun i _ => L.length - (intOf i).toNat)
    case atStart => exact ⟨0, by omega, rfl, H0.out⟩
    case round =>
      obtain ⟨j, hj, rfl, hP⟩ := hrel.ex
      have HP := Lib.hid hP
      clear hP H0
      by_cases hlt : j < L.length
      · have c1 := (HP.out.keep.cell (b := g) (World.block_lt_of_cell? _ _ (HW9.out j _ (tabL_get L j hlt))) (fun h => h) _).trans (HW9.out j _ (tabL_get L j hlt))
        have HST := Lib.hid (HP.out.step hlt (by omega) (HF.out _ (List.getElem_mem hlt)))
        have HRW := Lib.hid (HP.out.row hlt (by omega))
        have hx := HF.out _ (List.getElem_mem hlt)
        have hsl : ∀ w1 : World, (Instr.sliceAt 85 (.pointer (some ⟨w.heap.size + 1, 0, none⟩)) (some (.int .i64 (4 * (j : Int)))) none none).run Try.prog w1 = .ok (.slice (some ⟨w.heap.size + 1, 4 * j, none⟩) (512 - 4 * j) (512 - 4 * j)) w1 := fun w1 => by
          have h := slBlkLo (w.heap.size + 1) (4 * j) (by omega) w1
          rw [Int.natCast_mul] at h
          exact h
        have hx9 : Hid (L[j] < 4294967296) := Lib.hid hx
        clear hx
        generalize L[j] = x at *
        first | have hd : (j : Int) < 1 := by omega | have hd : (j : Int) < 64 := by omega | have hd : (j : Int) < 128 := by omega
        go_wp2_with (go_at_call 78; refine (put32_any HRW.out (by omega) x hx9.out).mono ?_; rintro e w' ⟨rfl, rfl⟩)
        go_roundw
        case rel => (repeat apply Exists.intro); first | exact (show PageR w Z L (.int .i64 ((j : Int) + 1)) _ from ⟨j + 1, by omega, by go_num, HST.out⟩) | exact ⟨(show PageR w Z L (.int .i64 ((j : Int) + 1)) _ from ⟨j + 1, by omega, by go_num, HST.out⟩), rfl⟩
        case measure => simp [intOf]; omega
      · first | have hd : ¬ (j : Int) < 128 := by omega | have hd : ¬ (j : Int) < 64 := by omega | have hd : ¬ (j : Int) < 1 := by omega
        have hjl : j = L.length := by omega
        have HPF := Lib.hid (HP.out.done hjl HLL.out (by omega))
        clear hlt
        go_wp2_with (first | (refine wpList_load_blkC rfl _ rfl (w.heap.size + 1) _ HPF.out.2 rfl HPF.out.1 ?_) | (refine wpList_store_blkC rfl _ _ rfl w.heap.size Z _ hz5 HPF.out.2 (blkC_one _) rfl rfl HP.out.res ?_; intro w4 h4 k4 _; have H4 := Lib.hid h4; have K4 := Lib.hid k4; clear h4 k4))
        refine bodyPost_ret (results_cell_row Try.results68 _ _ w.heap.size _ _ _ _ rfl H4.out Try.underlying85 rfl (by rw [HPF.out.2]; exact Try.infoBlk)) rfl ?_
        exact ⟨rfl, HP.out.keep.trans K4.out (fun x e => .inr (by omega))⟩

end Go.Proofs.Ytejeadccpigepaa.Ino
