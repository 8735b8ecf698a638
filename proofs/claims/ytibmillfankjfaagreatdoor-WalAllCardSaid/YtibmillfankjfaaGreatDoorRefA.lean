/- The statements' own reference log in memory: homes, what waits, and what its calls do. -/
import Derived.Test.YtibmillfankjfaaGreatDoorRefP
import Derived.Test.YtibmillfankjfaaGreatDoorFull
import Derived.Great.BuildSlice
namespace Go.Proofs.YtibmillfankjfaaGreatDoor
open Go.RowKit
set_option maxRecDepth 100000

/-- The value owns nothing but blocks of N. -/
def InN (N : Nat → Prop) (v : Value) : Prop := ∀ k, v.ownBlock = some k → N k

/-- The slice u reads as the sector s. -/
structure SecI (N : Nat → Prop) (w : World) (u : Value) (s : ByteArray) : Prop where
  row : Row w 5 1 u 512 (byteCells s)
  own : InN N u
  size : s.size = 512

theorem SecI.keep {N F : Nat → Prop} {w w' : World} {u : Value} {s : ByteArray} (h : SecI N w u s) (k : Keep F w w') (hF : ∀ x, N x → ¬ F x) : SecI N w' u s :=
  ⟨h.row.keep k (fun x hx => hF x (h.own x hx)), h.own, h.size⟩

theorem SecI.mono {N M : Nat → Prop} {w : World} {u : Value} {s : ByteArray} (h : SecI N w u s) (hM : ∀ x, N x → M x) : SecI M w u s := ⟨h.row, fun k hk => hM k (h.own k hk), h.size⟩

theorem SecI.one {N : Nat → Prop} {w : World} {u : Value} {s : ByteArray} (h : SecI N w u s) : u.oneCell' = true := by
  obtain ⟨a, cap, rfl, _⟩ := h.row.slice
  rfl

/-- A list of sectors. -/
structure HomesAt (N : Nat → Prop) (w : World) (v : Value) (us : List Value) (H : List ByteArray) : Prop where
  row : Row w 35 1 v H.length us
  own : InN N v
  each : ∀ j (h : j < H.length), ∃ u, us[j]? = some u ∧ SecI N w u (H[j])

theorem HomesAt.keep {N F : Nat → Prop} {w w' : World} {v : Value} {us : List Value} {H : List ByteArray} (h : HomesAt N w v us H) (k : Keep F w w') (hF : ∀ x, N x → ¬ F x) : HomesAt N w' v us H :=
  ⟨h.row.keep k (fun x hx => hF x (h.own x hx)), h.own, fun j hj => by obtain ⟨u, h1, h2⟩ := h.each j hj; exact ⟨u, h1, h2.keep k hF⟩⟩

theorem HomesAt.mono {N M : Nat → Prop} {w : World} {v : Value} {us : List Value} {H : List ByteArray} (h : HomesAt N w v us H) (hM : ∀ x, N x → M x) : HomesAt M w v us H :=
  ⟨h.row, fun k hk => hM k (h.own k hk), fun j hj => by obtain ⟨u, h1, h2⟩ := h.each j hj; exact ⟨u, h1, h2.mono hM⟩⟩

theorem HomesAt.one {N : Nat → Prop} {w : World} {v : Value} {us : List Value} {H : List ByteArray} (h : HomesAt N w v us H) : ∀ u ∈ us, u.oneCell' = true := by
  intro u hu
  obtain ⟨j, hj, rfl⟩ := List.mem_iff_getElem.1 hu
  have hl : j < H.length := by have := h.row.1; rw [Nat.mul_one] at this; omega
  obtain ⟨u', h1, h2⟩ := h.each j hl
  rw [List.getElem?_eq_getElem hj, Option.some.injEq] at h1
  rw [h1]; exact h2.one

/-- The cells of a list of puts. -/
def wcells (ks : List (Nat × Value)) : List Value := ks.flatMap fun x => [Value.int .i64 (x.1 : Int), x.2]

theorem wcells_length (l : List (Nat × Value)) : (wcells l).length = l.length * 2 := by
  induction l with
  | nil => rfl
  | cons x l ih => simp only [wcells, List.flatMap_cons, List.length_append, List.length_cons, List.length_nil] at *; omega

theorem wcells_get (l : List (Nat × Value)) (k : Nat) (h : k < l.length) : (wcells l)[k * 2]? = some (.int .i64 ((l[k]).1 : Int)) ∧ (wcells l)[k * 2 + 1]? = some (l[k]).2 := by
  induction l generalizing k with
  | nil => simp at h
  | cons x l ih =>
    cases k with
    | zero => exact ⟨rfl, rfl⟩
    | succ k =>
      have := ih k (by simpa using h)
      simp only [wcells, List.flatMap_cons, List.getElem_cons_succ] at *
      rw [show (k + 1) * 2 = k * 2 + 1 + 1 by omega]
      exact this

theorem wcells_set (l : List (Nat × Value)) (k : Nat) (h : k < l.length) (u : Value) : (wcells l).set (k * 2 + 1) u = wcells (l.set k ((l[k]).1, u)) := by
  induction l generalizing k with
  | nil => simp at h
  | cons x l ih =>
    cases k with
    | zero => rfl
    | succ k =>
      have := ih k (by simpa using h)
      simp only [wcells, List.flatMap_cons, List.set_cons_succ, List.getElem_cons_succ] at *
      rw [show (k + 1) * 2 + 1 = (k * 2 + 1) + 1 + 1 by omega, List.cons_append, List.cons_append, List.nil_append, List.set_cons_succ, List.set_cons_succ, this]
      rfl

theorem wcells_append (l m : List (Nat × Value)) : wcells (l ++ m) = wcells l ++ wcells m := by simp [wcells]

/-- What waits. -/
structure WaitAt (N : Nat → Prop) (w : World) (v : Value) (ks : List (Nat × Value)) (W : Grp) : Prop where
  row : Row w 93 2 v W.length (wcells ks)
  own : InN N v
  len : ks.length = W.length
  each : ∀ k (h : k < W.length) (h' : k < ks.length), (ks[k]).1 = (W[k]).1 ∧ SecI N w (ks[k]).2 (W[k]).2

theorem WaitAt.keep {N F : Nat → Prop} {w w' : World} {v : Value} {ks : List (Nat × Value)} {W : Grp} (h : WaitAt N w v ks W) (k : Keep F w w') (hF : ∀ x, N x → ¬ F x) : WaitAt N w' v ks W :=
  ⟨h.row.keep k (fun x hx => hF x (h.own x hx)), h.own, h.len, fun j hj hj' => ⟨(h.each j hj hj').1, (h.each j hj hj').2.keep k hF⟩⟩

theorem WaitAt.mono {N M : Nat → Prop} {w : World} {v : Value} {ks : List (Nat × Value)} {W : Grp} (h : WaitAt N w v ks W) (hM : ∀ x, N x → M x) : WaitAt M w v ks W :=
  ⟨h.row, fun k hk => hM k (h.own k hk), h.len, fun j hj hj' => ⟨(h.each j hj hj').1, (h.each j hj hj').2.mono hM⟩⟩

theorem WaitAt.one {N : Nat → Prop} {w : World} {v : Value} {ks : List (Nat × Value)} {W : Grp} (h : WaitAt N w v ks W) : ∀ u ∈ wcells ks, u.oneCell' = true := by
  intro u hu
  simp only [wcells, List.mem_flatMap] at hu
  obtain ⟨x, hx, hu⟩ := hu
  obtain ⟨j, hj, rfl⟩ := List.mem_iff_getElem.1 hx
  simp only [List.mem_cons, List.not_mem_nil, or_false] at hu
  rcases hu with rfl | rfl
  · rfl
  · exact (h.each j (by rw [← h.len]; exact hj) hj).2.one

/-- A reference log at block r. -/
structure RefAt (N : Nat → Prop) (w : World) (r : Nat) (vh vw vs : Value) (us : List Value) (ks : List (Nat × Value)) (H : List ByteArray) (W : Grp) : Prop where
  head : w.heap[r]? = some (.cells #[vh, vw, vs] 64 (0, 0))
  homes : HomesAt N w vh us H
  wait : WaitAt N w vw ks W
  out : ¬ N r

theorem RefAt.keep {N F : Nat → Prop} {w w' : World} {r : Nat} {vh vw vs : Value} {us : List Value} {ks : List (Nat × Value)} {H : List ByteArray} {W : Grp} (h : RefAt N w r vh vw vs us ks H W) (k : Keep F w w') (hF : ∀ x, N x → ¬ F x) (hr : ¬ F r) : RefAt N w' r vh vw vs us ks H W :=
  ⟨(k.block r (lt_of_block h.head) hr).trans h.head, h.homes.keep k hF, h.wait.keep k hF, h.out⟩

theorem RefAt.cell {N : Nat → Prop} {w : World} {r : Nat} {vh vw vs : Value} {us : List Value} {ks : List (Nat × Value)} {H : List ByteArray} {W : Grp} (h : RefAt N w r vh vw vs us ks H W) (i : Nat) : w.cell? ⟨r, i, none⟩ = (#[vh, vw, vs] : Array Value)[i]? := cell_of_row _ _ _ _ _ _ h.head
theorem RefAt.free {N : Nat → Prop} {w : World} {r : Nat} {vh vw vs : Value} {us : List Value} {ks : List (Nat × Value)} {H : List ByteArray} {W : Grp} (h : RefAt N w r vh vw vs us ks H W) (i : Nat) : w.frozen? ⟨r, i, none⟩ = false := frozen_of_row _ _ _ _ _ h.head

theorem step_append_row {P : Program} {w : World} {ops : Array Oper} {o : Oper} {a : Act} {K : Act → World → Prop} {Q : Exit → Act → World → Prop} {E : Prop} (hgd : o.guard = none) (s x : Operand) {t tx : TypeId}
    (ho : o.op = .call { callee := .builtin .append, args := #[s, x], argTypes := #[t, tx] })
    {e : TypeId} {i : TypeInfo} {z : Value} {size bytes : Nat} (ht : P.underlying t = some (.slice e)) (hi : P.info? e = some i) (hz : i.zero = some z)
    (hsize : i.size = size) (hby : i.bytes = bytes) (hzs : z.cells.size = size)
    {v : Value} {n : Nat} {xs : List Value} (hv : a.eval s = v) (h : Row w e size v n xs) {vx : Value} (hx : a.eval x = vx) {m : Nat} {news : List Value} (hs : Src P size tx vx m news w)
    (h63 : n + m ≤ maxLen) (hbytes : (n + m) * bytes ≤ 140737488355328)
    (hK : ∀ v' w', Row w' e size v' (n + m) (xs ++ news) → Keep (fun b => v.ownBlock = some b) w w' → (∀ b, v'.ownBlock = some b → v.ownBlock = some b ∨ (w.heap.size ≤ b ∧ b < w'.heap.size)) →
      (v' = .slice none 0 0 ↔ v = .slice none 0 0 ∧ m = 0) → K (a.put o.dst v') w') : if Region.wanted o (yielded ops a.tmps) = true then Oper.wp P o a w K Q else E := by
  have hw : Region.wanted o (yielded ops a.tmps) = true := by simp [Region.wanted, hgd]
  rw [if_pos hw]
  obtain ⟨v', w', hr, h2, h3, h4, h5⟩ := run_append_row (P := P) w o.type ht hi hz hsize hby hzs h hs h63 hbytes
  unfold Oper.wp execOp
  simp only [ho, resolve, invoke, builtin, Sem.run_bind, Sem.run_pure, Result.andThen_ok, List.map_toArray, List.map_cons, List.map_nil, hv, hx, hr]
  exact hK v' w' h2 h3 h4 h5

theorem Tryz.infoHome : (Tryz.prog.info? 35).map (fun i => (i.zero, i.size, i.bytes)) = some (some (.slice none 0 0), 1, 24) := by kernel_rfl
theorem Tryz.infoWrite : (Tryz.prog.info? 93).map (fun i => (i.zero, i.size, i.bytes)) = some (some (.agg #[.int .i64 0, .slice none 0 0]), 2, 32) := by kernel_rfl

/-- Where 'state' has come to. -/
structure StAt (w : World) (r k : Nat) (wr : World) : Prop where
  ex : ∃ vh us, wr.heap[r]? = some (.cells #[vh, .slice none 0 0, .slice none 0 0] 64 (0, 0)) ∧ HomesAt (fun x => w.heap.size ≤ x ∧ x < wr.heap.size ∧ x ≠ r) wr vh us (List.replicate k zeroSec)
  keep : Keep (fun _ => False) w wr
  new : r = w.heap.size

theorem zero_cells : (madeCells #[Value.int .u8 0] 512).toList = byteCells zeroSec := by
  rw [toList_madeCells_one]
  have : byteCells zeroSec = (List.replicate 512 (0 : UInt8)).map fun b => Value.int .u8 (b.toNat : Int) := rfl
  rw [this, List.map_replicate]
  rfl

theorem StAt.step {w wr w1 : World} {k : Nat} {vh v' : Value} {us : List Value} {Z : Array Value} {o : Obj} (h : StAt w w.heap.size k wr) (hh : wr.heap[w.heap.size]? = some (.cells #[vh, .slice none 0 0, .slice none 0 0] 64 (0, 0)))
    (hA : HomesAt (fun x => w.heap.size ≤ x ∧ x < wr.heap.size ∧ x ≠ w.heap.size) wr vh us (List.replicate k zeroSec)) (hZ : Z = madeCells #[Value.int .u8 0] 512)
    (r1 : Row w1 35 1 v' (k + 1) (us ++ [.slice (some ⟨wr.heap.size, 0, none⟩) 512 512])) (r2 : Keep (fun b => vh.ownBlock = some b) ((wr.alloc (.cells Z 5)).alloc o).drew w1)
    (r3 : ∀ b, v'.ownBlock = some b → vh.ownBlock = some b ∨ (wr.heap.size + 1 + 1 ≤ b ∧ b < w1.heap.size)) (hv1 : w1.heap[w.heap.size]? = some (.cells #[vh, .slice none 0 0, .slice none 0 0] 64 (0, 0))) :
    StAt w w.heap.size (k + 1) (w1.setCell ⟨w.heap.size, 0, none⟩ v') := by
  have hlt := lt_of_block hh
  have hsz : wr.heap.size + 2 ≤ w1.heap.size := by have := r2.size; simpa using this
  have k1 : Keep (fun b => vh.ownBlock = some b) wr w1 := ((((Keep.refl (fun b => vh.ownBlock = some b) wr).alloc (.cells Z 5)).alloc o).drew).trans r2 (fun _ h => .inl h)
  have k2 : Keep (fun b => b = w.heap.size) w1 (w1.setCell ⟨w.heap.size, 0, none⟩ v') := (Keep.refl (fun b => b = w.heap.size) w1).setCell _ _ (.inl rfl)
  have hown : ∀ b, vh.ownBlock = some b → w.heap.size ≤ b ∧ b < wr.heap.size ∧ b ≠ w.heap.size := hA.own
  have hz : Row w1 5 1 (.slice (some ⟨wr.heap.size, 0, none⟩) 512 512) 512 (byteCells zeroSec) := by
    have h0 : Row (wr.alloc (.cells Z 5)) 5 1 (.slice (some ⟨wr.heap.size, 0, none⟩) 512 512) 512 Z.toList := Row.made Z wr.heap.size 512 rfl (by simp [maxLen]) (by rw [hZ, ← Array.length_toList, zero_cells, byteCells_length]; rfl)
    rw [hZ, zero_cells] at h0
    rw [← hZ] at h0
    exact ((h0.alloc o).drew).keep r2 (fun b hb e => by simp [Value.ownBlock] at hb; have := hown b e; omega)
  refine ⟨⟨v', us ++ [.slice (some ⟨wr.heap.size, 0, none⟩) 512 512], ?_, ?_, fun b hb => ?_, fun j hj => ?_⟩, ?_, rfl⟩
  · rw [heap_setCell_at _ hv1]; rfl
  · rw [List.length_replicate]
    exact r1.keep k2 (fun b hb e => by rcases r3 b hb with h1 | h1; exact (hown b h1).2.2 e; omega)
  · rcases r3 b hb with h1 | h1
    · have := hown b h1; simp; omega
    · simp; omega
  · rw [List.length_replicate] at hj
    by_cases hjk : j < k
    · obtain ⟨u, h1, h2⟩ := hA.each j (by rw [List.length_replicate]; exact hjk)
      have hl : j < us.length := (List.getElem?_eq_some_iff.1 h1).1
      refine ⟨u, by rw [List.getElem?_append_left hl]; exact h1, ?_⟩
      simp only [List.getElem_replicate] at h2 ⊢
      refine ⟨((h2.row.keep k1 (fun b hb e => ?_))).keep k2 (fun b hb e => (h2.own b hb).2.2 e), fun b hb => ?_, h2.size⟩
      · obtain ⟨cs, f, t1⟩ := h2.row.type hb
        obtain ⟨cs', f', t2⟩ := hA.row.type e
        rw [t1] at t2
        simp only [Option.some.injEq, Obj.cells.injEq] at t2
        exact absurd t2.2.1 (by decide)
      · have := h2.own b hb; simp; omega
    · obtain rfl : j = k := by omega
      have hl : us.length = j := by have := hA.row.1; rw [List.length_replicate] at this; omega
      refine ⟨_, by rw [List.getElem?_append_right (by omega), hl]; simp; rfl, ?_⟩
      simp only [List.getElem_replicate]
      exact ⟨hz.keep k2 (fun b hb e => by simp [Value.ownBlock] at hb; omega), fun b hb => by simp [Value.ownBlock] at hb; simp; omega, zeroSec_size⟩
  · exact (h.keep.trans k1 (fun b hb => .inr (hown b hb).1)).trans k2 (fun b hb => .inr (by omega))

set_option maxHeartbeats 2000000 in
theorem state_any {w : World} :
    Calls Tryz.prog 7 #[] w fun e w' => ∃ r, e = .returned (.pointer (some ⟨r, 0, none⟩)) ∧ StAt w r 128 w' := by
  obtain ⟨i0, hi0, hz0, hz1, hz2⟩ := info_parts Tryz.infoHome
  have HI := Lib.hid hi0; have HZ0 := Lib.hid hz0; have HZ1 := Lib.hid hz1; have HZ2 := Lib.hid hz2
  obtain ⟨i1, hi1, hy0, hy1, hy2⟩ := info_parts Tryz.infoB
  obtain ⟨Z, hZ⟩ : ∃ Z, Z = madeCells #[Value.int .u8 0] 512 := ⟨_, rfl⟩
  have hmk : ∀ w, (Instr.makeSlice 35 (.int .i64 512) (.int .i64 512)).run Tryz.prog w = .ok (.slice (some ⟨w.heap.size, 0, none⟩) 512 512) (w.alloc (.cells Z 5)) := fun w => by
    have h := run_make (P := Tryz.prog) w 35 5 i1 (.int .u8 0) Tryz.underlying35 hi1 hy0 .i64 .i64 512 512 (by omega) (by omega) (by rw [hy2]; omega) (by omega)
    rw [h, hy1, hZ]
    rfl
  have HZC := Lib.hid hZ
  clear hi0 hz0 hz1 hz2 hi1 hy0 hy1 hy2 hZ
  go_enter Tryz.func7, Tryz.ntmps7
  go_wp2
  have H0 : Hid (StAt w w.heap.size 0 (w.alloc (.cells #[.slice none 0 0, .slice none 0 0, .slice none 0 0] 64))) := Lib.hid ⟨⟨.slice none 0 0, [], heap_alloc_new w _, Row.nil _ _ _, fun k hk => by simp [Value.ownBlock] at hk, fun j hj => by simp at hj⟩, (Keep.refl _ w).alloc _, rfl⟩
  go_loopw [2] (fun i wr => ∃ k : Nat, k ≤ 128 ∧ i = .int .i64 k ∧ StAt w w.heap.size k wr) (fun i _ => 128 - (intOf i).toNat)
  case atStart => exact ⟨0, by omega, rfl, H0.out⟩
  case round =>
    obtain ⟨k, hk, rfl, hF⟩ := hrel
    have HF := Lib.hid hF
    clear hF H0
    by_cases hlt : k < 128
    · obtain ⟨vh, us, hh, hA⟩ := HF.out.ex
      obtain ⟨ah, caph, e, hca, hcb⟩ := hA.row.slice
      rw [List.length_replicate] at e hca
      subst e
      have c0 : wr.cell? ⟨w.heap.size, 0, none⟩ = some (.slice ah k caph) := by rw [cell_of_row _ _ _ _ _ _ hh]; rfl
      have f0 : wr.frozen? ⟨w.heap.size, 0, none⟩ = false := frozen_of_row _ _ _ _ _ hh
      have hlt0 : w.heap.size < wr.heap.size := lt_of_block hh
      have hlt1 : ¬ w.heap.size = wr.heap.size := by omega
      have ca : (wr.alloc (.cells Z 5)).cell? ⟨w.heap.size, 0, none⟩ = some (.slice ah k caph) := by rw [cell_of_row _ _ _ _ _ _ (((Keep.refl (fun _ => False) wr).alloc _ |>.block _ hlt0 (fun h => h)).trans hh)]; rfl
      have HH := Lib.hid hh; have HA := Lib.hid hA
      clear hh hA
      go_wp2
      have HR1 : Hid (Row ((wr.alloc (.cells Z 5)).alloc (.cells #[.slice (some ⟨wr.heap.size, 0, none⟩) 512 512] 35)).drew 35 1 (.slice ah k caph) k us) := Lib.hid (by
        have := HA.out.row
        rw [List.length_replicate] at this
        exact ((this.alloc _).alloc _).drew)
      have HR2 : Hid (Row ((wr.alloc (.cells Z 5)).alloc (.cells #[.slice (some ⟨wr.heap.size, 0, none⟩) 512 512] 35)).drew 35 1 (.slice (some ⟨wr.heap.size + 1, 0, none⟩) 1 1) 1 [.slice (some ⟨wr.heap.size, 0, none⟩) 512 512]) := Lib.hid
        (Row.made (w := wr.alloc (.cells Z 5)) #[.slice (some ⟨wr.heap.size, 0, none⟩) 512 512] (wr.heap.size + 1) 1 (by simp) (by simp [maxLen]) rfl).drew
      go_region_law (refine step_append_row rfl (.tmp 13) (.tmp 15) rfl Tryz.underlying61 HI.out HZ0.out HZ1.out HZ2.out rfl (by simp [go_sem]) HR1.out (by simp [go_sem]) (HR2.out.src Tryz.underlying61 (by simp [Value.oneCell'])) (by simp [maxLen]; omega) (by omega) ?_; intro v' w1 r1 r2 r3 _; obtain ⟨av, capv, rfl, _, _⟩ := r1.slice; have hv1 : w1.heap[w.heap.size]? = some (.cells #[.slice ah k caph, .slice none 0 0, .slice none 0 0] 64 (0, 0)) := (r2.block w.heap.size (by simp; have := lt_of_block HH.out; omega) (fun e => (HA.out.own _ e).2.2 rfl)).trans (((Keep.refl (fun _ => False) wr).alloc _).alloc _ |>.block _ (lt_of_block HH.out) (fun h => h) |>.trans HH.out); have f1 : w1.frozen? ⟨w.heap.size, 0, none⟩ = false := frozen_of_row _ _ _ _ _ hv1; have c1 : w1.cell? ⟨w.heap.size, 0, none⟩ = some (.slice ah k caph) := (cell_of_row _ _ _ _ _ _ hv1).trans rfl; have HV1 := Lib.hid hv1; have R1 := Lib.hid r1; have R2 := Lib.hid r2; have R3 := Lib.hid r3; clear r1 r2 r3 hv1)
      all_goals go_simp
      all_goals go_wp2
      all_goals
        have HS := HF.out.step HH.out HA.out HZC.out R1.out R2.out (fun b hb => by have h9 := R3.out b hb; simp only [show ∀ w : World, w.drew.heap = w.heap from fun _ => rfl, World.size_alloc] at h9; exact h9) HV1.out
        go_roundw
        case rel => exact ⟨k + 1, by omega, by go_num, HS⟩
        case measure => simp [intOf]; omega
    · obtain rfl : k = 128 := by omega
      go_wp2
      go_ret
      exact ⟨_, rfl, HF.out⟩

end Go.Proofs.YtibmillfankjfaaGreatDoor
