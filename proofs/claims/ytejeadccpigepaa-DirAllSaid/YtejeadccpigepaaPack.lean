/- dirfs: what stands in a slot. -/
import Derived.Test.YtejeadccpigepaaMayD
import Derived.Test.YtejeadccpigepaaFull5
import Derived.Lib.LazyBuf
namespace Go.Proofs.Ytejeadccpigepaa.Dir
open Go.RowKit Go.Maps Go.Proofs.Ytejeadccpigepaa Go.Proofs.Ytejeadccpigepaa.Ino
set_option maxRecDepth 100000

/-- A slot's bytes. -/
def packL (e : List UInt8 × Nat) : List UInt8 := e.1 ++ List.replicate (24 - e.1.length) 0 ++ [UInt8.ofNat e.2] ++ List.replicate 7 0

/-- What may stand in a slot: nothing, or a name and a number. -/
def okE (e : List UInt8 × Nat) : Prop := (e.1 = [] ∧ e.2 = 0) ∨ (mayB e.1 = true ∧ 0 < e.2 ∧ e.2 < 32)

theorem okE.len {e : List UInt8 × Nat} (h : okE e) : e.1.length ≤ 24 ∧ e.2 < 32 := by
  rcases h with ⟨h1, h2⟩ | ⟨h1, h2, h3⟩
  · rw [h1, h2]; simp
  · simp [mayB] at h1; exact ⟨h1.1.1.1.2, h3⟩

theorem packL_length {e : List UInt8 × Nat} (h : e.1.length ≤ 24) : (packL e).length = 32 := by simp [packL]; omega

/-- An entry as a value. -/
def entV (e : List UInt8 × Nat) : Value := .agg #[.string ⟨e.1.toArray⟩, .int .i64 (e.2 : Int)]

theorem entV_cells (e : List UInt8 × Nat) : (entV e).cells = #[Value.string ⟨e.1.toArray⟩, Value.int .i64 (e.2 : Int)] := by rfl

theorem wpList_copy_str {P : Program} {ops : Array Oper} {rest : List Oper} {o : Oper} {a : Act} {w : World} {Q : Exit → Act → World → Prop} (hgd : o.guard = none) (d s : Operand) {dT sT : TypeId}
    (ho : o.op = .call { callee := .builtin .copy, args := #[d, s], argTypes := #[dT, sT] }) {elem : TypeId} (hu : P.underlying dT = some (.slice elem)) (hz : ∀ w, (Go.sizeOf elem).run P w = .ok 1 w)
    {b off dLen dCap : Nat} {t : ByteArray} (hd : a.eval d = .slice (some ⟨b, off, none⟩) dLen dCap) (hs : a.eval s = .string t) (hle : t.size ≤ dLen)
    (hc : ∀ j, j < t.size → (w.cell? ⟨b, off + j, none⟩).isSome = true ∧ w.frozen? ⟨b, off + j, none⟩ = false)
    (h : wpList P ops Q rest (a.put o.dst (goInt t.size)) (w.setCells b off (bcells t.data.toList))) : wpList P ops Q (o :: rest) a w := by
  refine wpList_plain hgd fun K hK => ?_
  have hrun := _root_.Go.run_copy_string (P := P) w dT sT o.type elem b off dLen dCap t hu hz hle (fun j hj => (hc j hj).1) (fun j hj => (hc j hj).2)
  unfold Oper.wp
  simp [execOp, ho, resolve, invoke, builtin, hd, hs, hrun, Result.andThen]
  exact hK _ _ h

theorem Try.sizeB (w : World) : (Go.sizeOf 5).run Try.prog w = .ok 1 w := by kernel_rfl

theorem pack_cells (nm : List UInt8) (k : Nat) (h : nm.length ≤ 24) (hk : k < 256) : (splice (List.replicate 32 (Value.int .u8 0)) 0 (bcells nm)).set 24 (.int .u8 (k : Int)) = bcells (packL (nm, k)) := by
  have e1 : splice (List.replicate 32 (Value.int .u8 0)) 0 (bcells nm) = bcells nm ++ List.replicate (24 - nm.length) (Value.int .u8 0) ++ Value.int .u8 0 :: List.replicate 7 (Value.int .u8 0) := by
    unfold splice
    rw [List.take_zero, List.nil_append, Nat.zero_add, bcells_length, List.drop_replicate, List.append_assoc]
    congr 1
    rw [← List.replicate_succ, List.replicate_append_replicate]
    congr 1; omega
  have e2 : (bcells nm ++ List.replicate (24 - nm.length) (Value.int .u8 0)).length = 24 := by simp [bcells]; omega
  rw [e1, List.set_append_right _ _ (by omega), e2, Nat.sub_self, List.set_cons_zero]
  have e3 : ((UInt8.ofNat k).toNat : Int) = (k : Int) := by rw [UInt8.toNat_ofNat']; omega
  simp only [packL, bcells, List.map_append, List.map_replicate, List.map_cons, List.map_nil, e3]
  simp

set_option maxHeartbeats 1000000 in
theorem pack_any (e : List UInt8 × Nat) (he : e.1.length ≤ 24) (hk : e.2 < 256) {w : World} : Calls Try.prog 31 #[.agg #[.string ⟨e.1.toArray⟩, .int .i64 (e.2 : Int)]] w fun x w' => ∃ v, x = .returned v ∧ Row w' 5 1 v 32 (bcells (packL e)) ∧ Keep (fun _ => False) w w' := by
  obtain ⟨nm, k⟩ := e
  simp only at he hk ⊢
  obtain ⟨i0, hi0, hz0, hz1, hz2⟩ := info_parts Try.infoB
  obtain ⟨s, hs⟩ : ∃ s : ByteArray, s = ⟨nm.toArray⟩ := ⟨_, rfl⟩
  have hsz : s.size = nm.length := by rw [hs]; simp [ByteArray.size]
  have hsl : s.data.toList = nm := by rw [hs]
  rw [← hs]
  have HPC := Lib.hid (pack_cells nm k he hk)
  have hk2 : (k : Int) % 256 = (k : Int) := by omega
  have hss : s.size ≤ 24 := by omega
  have HSL := Lib.hid hsl
  clear hs hsz hsl
  have HK0 : Hid (Keep (fun _ => False) w (w.alloc (.cells #[.string s, .int .i64 (k : Int)] 51))) := Lib.hid ((Keep.refl _ w).alloc _)
  have HS0 : Hid ((w.alloc (.cells #[.string s, .int .i64 (k : Int)] 51)).heap.size = w.heap.size + 1) := Lib.hid (by simp)
  have hc0 : (w.alloc (.cells #[.string s, .int .i64 (k : Int)] 51)).cell? ⟨w.heap.size, 0, none⟩ = some (.string s) := by rw [cell_of_row _ _ _ _ _ _ (heap_alloc_new w _)]; rfl
  have hc1 : (w.alloc (.cells #[.string s, .int .i64 (k : Int)] 51)).cell? ⟨w.heap.size, 1, none⟩ = some (.int .i64 (k : Int)) := by rw [cell_of_row _ _ _ _ _ _ (heap_alloc_new w _)]; rfl
  have HC0 := Lib.hid hc0; have HC1 := Lib.hid hc1
  clear hc0 hc1
  go_enter Try.func31, Try.ntmps31
  go_wp2_with (at_make; go_loud (refine wpList_make_row_g rfl (.const (.int .i64 32)) (.const (.int .i64 32)) rfl Try.underlying71 hi0 hz0 hz1 hz2 32 rfl rfl rfl rfl (by omega) (by unfold maxLen; omega) ?_))
  generalize w.alloc (.cells #[.string s, .int .i64 (k : Int)] 51) = w1 at *
  intro w2 h2 k2 hs2
  rw [toList_madeCells_one] at h2
  have hlt0 : w.heap.size < w1.heap.size := by have := HS0.out; omega
  have c20 : w2.cell? ⟨w.heap.size, 0, none⟩ = some (.string s) := (k2.cell hlt0 (fun h => h) 0).trans HC0.out
  have c21 : w2.cell? ⟨w.heap.size, 1, none⟩ = some (.int .i64 (k : Int)) := (k2.cell hlt0 (fun h => h) 1).trans HC1.out
  have H2 := Lib.hid h2
  have K2 : Hid (Keep (fun _ => False) w w2) := Lib.hid (HK0.out.trans k2 (fun _ h => h.elim))
  have HLT := Lib.hid hs2
  have HNE : Hid (w.heap.size + 1 ≠ w.heap.size) := Lib.hid (by omega)
  have HGE : Hid (w.heap.size ≤ w.heap.size + 1) := Lib.hid (by omega)
  clear h2 k2 hs2 hlt0 HC0 HC1 HS0 HK0
  generalize w.heap.size + 1 = g at *
  have hb3 : Hid (∀ w3, w3 = w2.setCells g 0 (bcells s.data.toList) → (Row w3 5 1 (.slice (some ⟨g, 0, none⟩) 32 32) 32 (splice (List.replicate 32 (Value.int .u8 0)) 0 (bcells nm)) ∧ w3.cell? ⟨w.heap.size, 1, none⟩ = some (.int .i64 (k : Int)) ∧ Keep (fun _ => False) w w3)) := Lib.hid (by
    rintro w3 rfl
    have h3 := H2.out.setCells 0 (bcells s.data.toList) (by rw [bcells_length, HSL.out]; omega)
    rw [Nat.zero_add, HSL.out] at h3
    have k3 := keep_setCells (F := fun x => x = g) (w0 := w2) g (bcells s.data.toList) 0 w2 (Keep.refl _ _) (.inl rfl)
    refine ⟨by rw [HSL.out]; exact h3, (k3.cell (World.block_lt_of_cell? _ _ c20) (fun e => HNE.out e.symm) 1).trans c21, K2.out.trans k3 (fun x hx => .inr (by rw [hx]; exact HGE.out))⟩)
  go_wp2_with ((with_reducible refine wpList_copy_str rfl (.tmp 5) (.tmp 7) rfl Try.underlying71 Try.sizeB rfl rfl (by omega) (fun j hj => H2.out.there j (by omega)) ?_); (obtain ⟨w3, hw3⟩ : ∃ w3, w3 = w2.setCells g 0 (bcells s.data.toList) := ⟨_, rfl⟩); (rw [← hw3]); (obtain ⟨h3, c31, k3⟩ := hb3.out w3 hw3); (have H3 := Lib.hid h3); (have K3 := Lib.hid k3); (obtain ⟨t1, t2⟩ := h3.there 24 (by omega)); (rw [Nat.zero_add] at t1 t2); (obtain ⟨u, t1⟩ := Option.isSome_iff_exists.1 t1); clear h3 k3 hw3)
  go_ret
  have h4 := H3.out.stored 24 (.int .u8 (k : Int))
  rw [Nat.zero_add, HPC.out] at h4
  exact ⟨_, rfl, h4, K3.out.setCell _ _ (.inr HGE.out)⟩

end Go.Proofs.Ytejeadccpigepaa.Dir
