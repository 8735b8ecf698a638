/- World files: the reference's line of a room. -/
import Derived.Test.YtcodbomgodkcmaaGreatDoorDbG
import Derived.Test.YtcodbomgodkcmaaGreatDoorDbB
import Derived.Deep.RegionLaw
namespace Go.Proofs.YtcodbomgodkcmaaGreatDoor.Wd
open Go.RowKit Go.Maps Go.Proofs.YtcodbomgodkcmaaGreatDoor Go.Proofs.YtcodbomgodkcmaaGreatDoor.Lin
set_option maxRecDepth 100000

theorem refKinds_any {w : World} : Calls Tryz.prog 149 #[] w fun e w' => ∃ v, e = .returned v ∧ Seen w' 1 v 6 (tcells kindsW) ∧ Keep (fun _ => False) w w' := by
  go_enter Tryz.func149, Tryz.ntmps149
  go_wp2
  go_ret
  exact ⟨_, rfl, (Row.made (w := w) (tcells kindsW).toArray w.heap.size 6 (by simp) (by simp [maxLen]) rfl).seen, (Keep.refl _ w).alloc _⟩
theorem refSlots_any {w : World} : Calls Tryz.prog 76 #[] w fun e w' => ∃ v, e = .returned v ∧ Seen w' 1 v 3 (tcells slotsW) ∧ Keep (fun _ => False) w w' := by
  go_enter Tryz.func76, Tryz.ntmps76
  go_wp2
  go_ret
  exact ⟨_, rfl, (Row.made (w := w) (tcells slotsW).toArray w.heap.size 3 (by simp) (by simp [maxLen]) rfl).seen, (Keep.refl _ w).alloc _⟩
theorem step_append_row {P : Program} {w : World} {ops : Array Oper} {o : Oper} {a : Act} {K : Act → World → Prop} {Q : Exit → Act → World → Prop} {E : Prop} (hgd : o.guard = none) (s x : Operand) {t tx : TypeId}
    (ho : o.op = .call { callee := .builtin .append, args := #[s, x], argTypes := #[t, tx] })
    {e : TypeId} {i : TypeInfo} {z : Value} {size bytes : Nat} (ht : P.underlying t = some (.slice e)) (hi : P.info? e = some i) (hz : i.zero = some z)
    (hsize : i.size = size) (hby : i.bytes = bytes) (hzs : z.cells.size = size)
    {v : Value} {n : Nat} {xs : List Value} (hv : a.eval s = v) (h : Row w e size v n xs) {vx : Value} (hx : a.eval x = vx) {m : Nat} {news : List Value} (hs : Src P size tx vx m news w)
    (h63 : n + m ≤ maxLen) (hbytes : (n + m) * bytes ≤ 140737488355328)
    (hK : ∀ v' w', Row w' e size v' (n + m) (xs ++ news) → Keep (fun b => v.ownBlock = some b) w w' → (∀ b, v'.ownBlock = some b → v.ownBlock = some b ∨ (w.heap.size ≤ b ∧ b < w'.heap.size)) →
      (v' = .slice none 0 0 ↔ v = .slice none 0 0 ∧ m = 0) → K (a.put o.dst v') w') : if Region.wanted o (yielded ops a.tmps) = true then Oper.wp P o a w K Q else E := by
  have hw : Region.wanted o (yielded ops a.tmps) = true := by simp [Region.wanted, hgd]
  rw [if_pos hw]
  obtain ⟨v', w', hr, h2, h3, h4, h5⟩ := run_append_row (P := P) w o.type ht hi hz hsize hby hzs h hs h63 hbytes
  unfold Oper.wp execOp
  simp only [ho, resolve, invoke, builtin, Sem.run_bind, Sem.run_pure, Result.andThen_ok, List.map_toArray, List.map_cons, List.map_nil, hv, hx, hr]
  exact hK v' w' h2 h3 h4 h5

/-- A line came into tables, or none. -/
def LineA (B : Nat → Prop) (w : World) (d : Nat) (D : DbM) (o : Option RecI) (e : Ending) (w' : World) : Prop :=
  (∃ R v1 v2 v3 v4 v5 v6 rr ss, o = some R ∧ e = .returned (.bool true) ∧ DbV B w' d (push D R) v1 v2 v3 v4 v5 v6 rr ss ∧ Keep (fun b => B b) w w') ∨
  (o = none ∧ e = .returned (.bool false) ∧ Keep (fun b => B b) w w')

/-- Words of a line in memory, and what a load of one gives. -/
structure WsAt (w : World) (g off cap : Nat) (l : List ByteArray) : Prop where
  row : Row w 9 1 (.slice (some ⟨g, off, none⟩) l.length cap) l.length (tcells l)
theorem WsAt.cell {w : World} {g off cap : Nat} {l : List ByteArray} (h : WsAt w g off cap l) {i : Nat} (hi : i < l.length) : w.cell? ⟨g, off + i, none⟩ = some (.string (atW l i)) := by
  rw [h.row.cellAt i (by omega)]
  exact tcells_get (atW_get hi)
theorem WsAt.keep {F : Nat → Prop} {w w' : World} {g off cap : Nat} {l : List ByteArray} (h : WsAt w g off cap l) (k : Keep F w w') (hF : ¬ F g) : WsAt w' g off cap l := ⟨h.row.keep k (fun b hb => by cases hb; exact hF)⟩
theorem WsAt.drop {w : World} {g off cap : Nat} {l : List ByteArray} (h : WsAt w g off cap l) {k : Nat} (hk : k < l.length) : Seen w 1 (.slice (some ⟨g, off + k, none⟩) (l.length - k) (cap - k)) (l.drop k).length (tcells (l.drop k)) := by
  obtain ⟨_, _, hv, h1, h2⟩ := h.row.slice
  simp only [Value.slice.injEq] at hv
  obtain ⟨_, _, rfl⟩ := hv
  refine ⟨by simp [tcells], some ⟨g, off + k, none⟩, cap - k, by rw [List.length_drop], by rw [List.length_drop]; omega, by omega, .inr ⟨g, off + k, rfl, h.row.lt rfl, fun j u hj => ?_⟩⟩
  have hj2 : j < l.length - k := by have := (List.getElem?_eq_some_iff.1 hj).1; simpa [tcells] using this
  rw [Nat.add_assoc, h.cell (i := k + j) (by omega)]
  rw [← hj, tcells, List.getElem?_map, List.getElem?_drop, atW_get (by omega)]
  rfl

structure RjR (id : Int) (name : ByteArray) (kind price : Int) (e : List Int) (b : Nat) (w0 : World) (jv : Value) (wr : World) : Prop where
  ex : ∃ j : Nat, j ≤ 6 ∧ jv = .int .i64 (j : Int) ∧ wr.heap[b]? = some (.cells (roomC (roomJ id name kind price e j)).toArray 53 (0, 0)) ∧ Keep (fun x => x = b) w0 wr

theorem numsF_len (a b : Int) : ∀ (L : List ByteArray) (l : List Int), numsF a b L = some l → l.length = L.length
  | [], l, h => by simp [numsF] at h; subst h; rfl
  | s :: L, l, h => by
    rw [numsF] at h
    split at h
    · cases hh : numsF a b L with
      | none => rw [hh] at h; simp at h
      | some m => rw [hh] at h; simp at h; subst h; simp [numsF_len a b L m hh]
    · cases h

theorem Tryz.infoRm : (Tryz.prog.info? 53).map (fun i => (i.zero, i.size, i.bytes)) = some (some (.agg #[.int .i64 0, .string ⟨#[]⟩, .int .i64 0, .int .i64 0, .int .i64 0, .int .i64 0, .int .i64 0, .int .i64 0, .int .i64 0, .int .i64 0]), 10, 88) := by kernel_rfl

set_option maxHeartbeats 4000000 in
theorem refRoomL_any {w : World} {B : Nat → Prop} {d : Nat} {D : DbM} {v1 v2 v3 v4 v5 v6 : Value} {rr : List (RecM × Value)} {ss : List (ShopM × Value)} (h : DbV B w d D v1 v2 v3 v4 v5 v6 rr ss) {g off cap : Nat} {l : List ByteArray} (hw : WsAt w g off cap l) (_hg : ¬ B g)
    (hl : l.length = 11) (hsz : ∀ s ∈ l, s.size ≤ 1000000) (hn : D.rooms.length ≤ 1000000) :
    Calls Tryz.prog 73 #[.pointer (some ⟨d, 0, none⟩), .slice (some ⟨g, off, none⟩) l.length cap] w (LineA B w d D (roomF l)) := by
  have HV := Lib.hid h
  have HW : Hid (∀ w9, Keep (fun _ => False) w w9 → WsAt w9 g off cap l) := Lib.hid (fun w9 k => hw.keep k (fun h => h))
  obtain ⟨_, _, hv, hc1, hc2⟩ := hw.row.slice
  simp only [Value.slice.injEq] at hv
  obtain ⟨rfl, -, rfl⟩ := hv
  unfold maxLen at hc2
  have HSZ : Hid (∀ i, i < l.length → (atW l i).size ≤ 1000000) := Lib.hid (fun i hi => hsz _ (List.mem_of_getElem? (atW_get hi)))
  obtain ⟨n1, ok1, e1⟩ : ∃ n ok, numF (atW l 1) 1 1000 = (n, ok) := ⟨_, _, rfl⟩
  obtain ⟨n4, ok4, e4⟩ : ∃ n ok, numF (atW l 4) 0 1073741824 = (n, ok) := ⟨_, _, rfl⟩
  have C1 := Lib.hid (fun w9 : World => refNum_any (w := w9) (atW l 1) 1 1000)
  have C4 := Lib.hid (fun w9 : World => refNum_any (w := w9) (atW l 4) 0 1073741824)
  rw [e1] at C1
  rw [e4] at C4
  obtain ⟨kd, hkd⟩ : ∃ kd, kd = kindF (atW l 3) := ⟨_, rfl⟩
  have CW : Hid (∀ (w9 : World) (v : Value), Seen w9 1 v 6 (tcells kindsW) → Calls Tryz.prog 75 #[.string (atW l 3), v] w9 fun e w' => e = .returned (.int .i64 kd) ∧ w9 = w') := Lib.hid (fun w9 v hs => by
    rw [hkd]; exact refWordI_any (atW l 3) (L := kindsW) hs (by simp))
  have HRF : Hid (roomF l = match ok1 && ok4 && decide (0 ≤ kd) && wordOk (atW l 2), numsF 0 1000 (l.drop 5) with
    | true, some [e0, e1, e2, e3, e4, e5] => some (.room ⟨n1, atW l 2, kd, n4, e0, e1, e2, e3, e4, e5⟩)
    | _, _ => none) := Lib.hid (by unfold roomF gMax; rw [e1, e4, ← hkd]; rfl)
  have k0 : Keep (fun _ => False) w w := Keep.refl _ _
  have x1 := (HW.out w k0).cell (i := 1) (by omega)
  have x3 := (HW.out w.drew k0.drew).cell (i := 3) (by omega)
  have x3' := (HW.out w k0).cell (i := 3) (by omega)
  have CK := Lib.hid (fun w9 : World => refKinds_any (w := w9))
  obtain ⟨wd, hwd⟩ : ∃ wd, wd = wordOk (atW l 2) := ⟨_, rfl⟩
  have CWD : Hid (∀ w9 : World, Calls Tryz.prog 77 #[.string (atW l 2)] w9 fun e w' => e = .returned (.bool wd) ∧ w9 = w') := Lib.hid (fun w9 => by rw [hwd]; exact refWordOk _ (HSZ.out 2 (by omega)))
  rw [← hwd] at HRF
  have hn11 : (l.length : Int) = 11 := by omega
  have CN0 : Hid (∀ w9 : World, Keep (fun _ => False) w w9 → Calls Tryz.prog 78 #[.slice (some ⟨g, off + 5, none⟩) 6 (cap - 5), .int .i64 0, .int .i64 1000] w9 (NumsA (numsF 0 1000 (l.drop 5)) w9)) := Lib.hid (fun w9 k9 => by
    have := (HW.out w9 k9).drop (k := 5) (by omega)
    rw [show l.length - 5 = 6 by omega] at this
    exact refNums_any this (by rw [List.length_drop]; omega) 0 1000)
  obtain ⟨a1, c1, rfl, hcr, hcr2⟩ := h.l1.slice
  unfold maxLen at hcr2
  obtain ⟨i0, hi0, hz0, hz1, hz2⟩ := info_parts Tryz.infoRm
  clear h hw hsz e1 e4 hkd k0 hwd
  rcases hnf : numsF 0 1000 (l.drop 5) with _ | es
  · have CN : Hid (∀ w9 : World, Keep (fun _ => False) w w9 → Calls Tryz.prog 78 #[.slice (some ⟨g, off + 5, none⟩) 6 (cap - 5), .int .i64 0, .int .i64 1000] w9 fun e w' => e = .returned (.tuple #[.slice none 0 0, .bool false]) ∧ Keep (fun _ => False) w9 w') := Lib.hid (fun w9 k9 => (CN0.out w9 k9).mono fun e w' hh => by
      rcases hh with ⟨l', v, hl', _⟩ | ⟨_, he, hk⟩
      · rw [hnf] at hl'; cases hl'
      · exact ⟨he, hk⟩)
    have HNO : Hid (roomF l = none) := Lib.hid (by rw [HRF.out, hnf]; split <;> simp_all)
    clear CN0 hnf
    cases ok1 with
    | false =>
      go_enter Tryz.func73, Tryz.ntmps73
      go_wp2_with (go_at_call 74; (with_reducible refine (C1.out _).mono ?_); rintro e w' ⟨rfl, rfl⟩)
      go_region_with (first
        | (go_at_call 149; (with_reducible refine (CK.out _).mono ?_); rintro e w2 ⟨vk, rfl, hs, hk⟩; have HKS := Lib.hid hs; have HK2 : Hid (Keep (fun _ => False) w w2) := Lib.hid (((Keep.refl _ w).drew).trans hk (fun _ h => h.elim)); have x3'' := (HW.out w2 HK2.out).cell (i := 3) (by omega); clear hs hk)
        | (go_at_call 75; (with_reducible refine (CW.out _ _ HKS.out).mono ?_); rintro e w' ⟨rfl, rfl⟩))
      all_goals
        have x4 := (HW.out _ (HK2.out.drew)).cell (i := 4) (by omega)
        have x4' := (HW.out _ HK2.out).cell (i := 4) (by omega)
        have CN2 := Lib.hid (CN.out _ HK2.out)
        have CN3 := Lib.hid (CN.out _ HK2.out.drew)
        go_wp2_with (first | (go_at_call 74; (with_reducible refine (C4.out _).mono ?_); rintro e w' ⟨rfl, rfl⟩) | (go_at_call 78; (with_reducible refine (CN2.out).mono ?_); rintro e w3 ⟨rfl, k3⟩; have HK3 : Hid (Keep (fun _ => False) w w3) := Lib.hid (HK2.out.trans k3 (fun _ h => h.elim)); have x2 := (HW.out w3 HK3.out).cell (i := 2) (by omega); clear k3))
        go_ret
        exact .inr ⟨HNO.out, rfl, HK3.out.mono (fun _ _ h => h.elim)⟩
    | true =>
      cases ok4 with
      | false =>
        go_enter Tryz.func73, Tryz.ntmps73
        go_wp2_with (go_at_call 74; (with_reducible refine (C1.out _).mono ?_); rintro e w' ⟨rfl, rfl⟩)
        go_region_with (first
          | (go_at_call 149; (with_reducible refine (CK.out _).mono ?_); rintro e w2 ⟨vk, rfl, hs, hk⟩; have HKS := Lib.hid hs; have HK2 : Hid (Keep (fun _ => False) w w2) := Lib.hid (((Keep.refl _ w).drew).trans hk (fun _ h => h.elim)); have x3'' := (HW.out w2 HK2.out).cell (i := 3) (by omega); clear hs hk)
          | (go_at_call 75; (with_reducible refine (CW.out _ _ HKS.out).mono ?_); rintro e w' ⟨rfl, rfl⟩))
        all_goals
          have x4 := (HW.out _ (HK2.out.drew)).cell (i := 4) (by omega)
          have x4' := (HW.out _ HK2.out).cell (i := 4) (by omega)
          have CN2 := Lib.hid (CN.out _ HK2.out)
          have CN3 := Lib.hid (CN.out _ HK2.out.drew)
          go_wp2_with (first | (go_at_call 74; (with_reducible refine (C4.out _).mono ?_); rintro e w' ⟨rfl, rfl⟩) | (go_at_call 78; (with_reducible refine (CN2.out).mono ?_); rintro e w3 ⟨rfl, k3⟩; have HK3 : Hid (Keep (fun _ => False) w w3) := Lib.hid (HK2.out.trans k3 (fun _ h => h.elim)); have x2 := (HW.out w3 HK3.out).cell (i := 2) (by omega); clear k3))
          go_ret
          exact .inr ⟨HNO.out, rfl, HK3.out.mono (fun _ _ h => h.elim)⟩
      | true =>
        go_enter Tryz.func73, Tryz.ntmps73
        go_wp2_with (go_at_call 74; (with_reducible refine (C1.out _).mono ?_); rintro e w' ⟨rfl, rfl⟩)
        go_region_with (first
          | (go_at_call 149; (with_reducible refine (CK.out _).mono ?_); rintro e w2 ⟨vk, rfl, hs, hk⟩; have HKS := Lib.hid hs; have HK2 : Hid (Keep (fun _ => False) w w2) := Lib.hid (((Keep.refl _ w).drew).trans hk (fun _ h => h.elim)); have x3'' := (HW.out w2 HK2.out).cell (i := 3) (by omega); clear hs hk)
          | (go_at_call 75; (with_reducible refine (CW.out _ _ HKS.out).mono ?_); rintro e w' ⟨rfl, rfl⟩))
        all_goals
          have x4 := (HW.out _ (HK2.out.drew)).cell (i := 4) (by omega)
          have x4' := (HW.out _ HK2.out).cell (i := 4) (by omega)
          have CN2 := Lib.hid (CN.out _ HK2.out)
          have CN3 := Lib.hid (CN.out _ HK2.out.drew)
          go_wp2_with (first | (go_at_call 74; (with_reducible refine (C4.out _).mono ?_); rintro e w' ⟨rfl, rfl⟩) | (go_at_call 78; (with_reducible refine (CN2.out).mono ?_); rintro e w3 ⟨rfl, k3⟩; have HK3 : Hid (Keep (fun _ => False) w w3) := Lib.hid (HK2.out.trans k3 (fun _ h => h.elim)); have x2 := (HW.out w3 HK3.out).cell (i := 2) (by omega); clear k3))
          go_ret
          exact .inr ⟨HNO.out, rfl, HK3.out.mono (fun _ _ h => h.elim)⟩
  · have hel : es.length = 6 := by rw [numsF_len _ _ _ _ hnf, List.length_drop]; omega
    have CN : Hid (∀ w9 : World, Keep (fun _ => False) w w9 → Calls Tryz.prog 78 #[.slice (some ⟨g, off + 5, none⟩) 6 (cap - 5), .int .i64 0, .int .i64 1000] w9 fun e w' => ∃ v, e = .returned (.tuple #[v, .bool true]) ∧ Row w' 3 1 v 6 (icells es) ∧ (∀ b, v.ownBlock = some b → w9.heap.size ≤ b) ∧ Keep (fun _ => False) w9 w') := Lib.hid (fun w9 k9 => (CN0.out w9 k9).mono fun e w' hh => by
      rcases hh with ⟨l', v, hl', he, hr, ho, hk⟩ | ⟨hno, _⟩
      · rw [hnf] at hl'; cases hl'; rw [hel] at hr; exact ⟨v, he, hr, ho, hk⟩
      · rw [hnf] at hno; cases hno)
    rw [hnf] at HRF
    clear CN0 hnf
    have HNX : Hid ((ok1 && ok4 && decide (0 ≤ kd) && wd) = false → roomF l = none) := Lib.hid (fun hb => by rw [HRF.out, hb])
    cases ok1 with
    | false =>
      have HNO : Hid (roomF l = none) := Lib.hid (HNX.out (by simp))
      go_enter Tryz.func73, Tryz.ntmps73
      go_wp2_with (go_at_call 74; (with_reducible refine (C1.out _).mono ?_); rintro e w' ⟨rfl, rfl⟩)
      go_region_with (first
        | (go_at_call 149; (with_reducible refine (CK.out _).mono ?_); rintro e w2 ⟨vk, rfl, hs, hk⟩; have HKS := Lib.hid hs; have HK2 : Hid (Keep (fun _ => False) w w2) := Lib.hid (((Keep.refl _ w).drew).trans hk (fun _ h => h.elim)); have x3'' := (HW.out w2 HK2.out).cell (i := 3) (by omega); clear hs hk)
        | (go_at_call 75; (with_reducible refine (CW.out _ _ HKS.out).mono ?_); rintro e w' ⟨rfl, rfl⟩))
      all_goals
        have x4 := (HW.out _ (HK2.out.drew)).cell (i := 4) (by omega)
        have x4' := (HW.out _ HK2.out).cell (i := 4) (by omega)
        have CN2 := Lib.hid (CN.out _ HK2.out)
        have CN3 := Lib.hid (CN.out _ HK2.out.drew)
        go_wp2_with (first | (go_at_call 74; (with_reducible refine (C4.out _).mono ?_); rintro e w' ⟨rfl, rfl⟩) | (go_at_call 78; (with_reducible refine (CN2.out).mono ?_); rintro e w3 ⟨va, rfl, r3, o3, k3⟩; have HR3 := Lib.hid r3; have HO3 := Lib.hid o3; have HK3 : Hid (Keep (fun _ => False) w w3) := Lib.hid (HK2.out.trans k3 (fun _ h => h.elim)); have HKN := Lib.hid k3; have x2 := (HW.out w3 HK3.out).cell (i := 2) (by omega); clear r3 o3 k3))
        go_ret
        exact .inr ⟨HNO.out, rfl, HK3.out.mono (fun _ _ h => h.elim)⟩
    | true =>
      cases ok4 with
      | false =>
        have HNO : Hid (roomF l = none) := Lib.hid (HNX.out (by simp))
        go_enter Tryz.func73, Tryz.ntmps73
        go_wp2_with (go_at_call 74; (with_reducible refine (C1.out _).mono ?_); rintro e w' ⟨rfl, rfl⟩)
        go_region_with (first
          | (go_at_call 149; (with_reducible refine (CK.out _).mono ?_); rintro e w2 ⟨vk, rfl, hs, hk⟩; have HKS := Lib.hid hs; have HK2 : Hid (Keep (fun _ => False) w w2) := Lib.hid (((Keep.refl _ w).drew).trans hk (fun _ h => h.elim)); have x3'' := (HW.out w2 HK2.out).cell (i := 3) (by omega); clear hs hk)
          | (go_at_call 75; (with_reducible refine (CW.out _ _ HKS.out).mono ?_); rintro e w' ⟨rfl, rfl⟩))
        all_goals
          have x4 := (HW.out _ (HK2.out.drew)).cell (i := 4) (by omega)
          have x4' := (HW.out _ HK2.out).cell (i := 4) (by omega)
          have CN2 := Lib.hid (CN.out _ HK2.out)
          have CN3 := Lib.hid (CN.out _ HK2.out.drew)
          go_wp2_with (first | (go_at_call 74; (with_reducible refine (C4.out _).mono ?_); rintro e w' ⟨rfl, rfl⟩) | (go_at_call 78; (with_reducible refine (CN2.out).mono ?_); rintro e w3 ⟨va, rfl, r3, o3, k3⟩; have HR3 := Lib.hid r3; have HO3 := Lib.hid o3; have HK3 : Hid (Keep (fun _ => False) w w3) := Lib.hid (HK2.out.trans k3 (fun _ h => h.elim)); have HKN := Lib.hid k3; have x2 := (HW.out w3 HK3.out).cell (i := 2) (by omega); clear r3 o3 k3))
          go_ret
          exact .inr ⟨HNO.out, rfl, HK3.out.mono (fun _ _ h => h.elim)⟩
      | true =>
        by_cases hkd : kd < 0
        · have dk : decide (kd < 0) = true := by rw [decide_eq_true_eq]; exact hkd
          have HNO : Hid (roomF l = none) := Lib.hid (HNX.out (by rw [decide_eq_false (p := 0 ≤ kd) (by omega)]; simp))
          clear hkd
          go_enter Tryz.func73, Tryz.ntmps73
          go_wp2_with (go_at_call 74; (with_reducible refine (C1.out _).mono ?_); rintro e w' ⟨rfl, rfl⟩)
          go_region_with (first
            | (go_at_call 149; (with_reducible refine (CK.out _).mono ?_); rintro e w2 ⟨vk, rfl, hs, hk⟩; have HKS := Lib.hid hs; have HK2 : Hid (Keep (fun _ => False) w w2) := Lib.hid (((Keep.refl _ w).drew).trans hk (fun _ h => h.elim)); have x3'' := (HW.out w2 HK2.out).cell (i := 3) (by omega); clear hs hk)
            | (go_at_call 75; (with_reducible refine (CW.out _ _ HKS.out).mono ?_); rintro e w' ⟨rfl, rfl⟩))
          all_goals
            have x4 := (HW.out _ (HK2.out.drew)).cell (i := 4) (by omega)
            have x4' := (HW.out _ HK2.out).cell (i := 4) (by omega)
            have CN2 := Lib.hid (CN.out _ HK2.out)
            have CN3 := Lib.hid (CN.out _ HK2.out.drew)
            go_wp2_with (first | (go_at_call 74; (with_reducible refine (C4.out _).mono ?_); rintro e w' ⟨rfl, rfl⟩) | (go_at_call 78; (with_reducible refine (CN2.out).mono ?_); rintro e w3 ⟨va, rfl, r3, o3, k3⟩; have HR3 := Lib.hid r3; have HO3 := Lib.hid o3; have HK3 : Hid (Keep (fun _ => False) w w3) := Lib.hid (HK2.out.trans k3 (fun _ h => h.elim)); have HKN := Lib.hid k3; have x2 := (HW.out w3 HK3.out).cell (i := 2) (by omega); clear r3 o3 k3))
            go_ret
            exact .inr ⟨HNO.out, rfl, HK3.out.mono (fun _ _ h => h.elim)⟩
        · have dk : decide (kd < 0) = false := by rw [decide_eq_false_iff_not]; exact hkd
          have HKD := Lib.hid hkd
          clear hkd
          cases wd with
          | false =>
            have HNO : Hid (roomF l = none) := Lib.hid (HNX.out (by simp))
            go_enter Tryz.func73, Tryz.ntmps73
            go_wp2_with (go_at_call 74; (with_reducible refine (C1.out _).mono ?_); rintro e w' ⟨rfl, rfl⟩)
            go_region_with (first
              | (go_at_call 149; (with_reducible refine (CK.out _).mono ?_); rintro e w2 ⟨vk, rfl, hs, hk⟩; have HKS := Lib.hid hs; have HK2 : Hid (Keep (fun _ => False) w w2) := Lib.hid (((Keep.refl _ w).drew).trans hk (fun _ h => h.elim)); have x3'' := (HW.out w2 HK2.out).cell (i := 3) (by omega); clear hs hk)
              | (go_at_call 75; (with_reducible refine (CW.out _ _ HKS.out).mono ?_); rintro e w' ⟨rfl, rfl⟩))
            all_goals
              have x4 := (HW.out _ (HK2.out.drew)).cell (i := 4) (by omega)
              have x4' := (HW.out _ HK2.out).cell (i := 4) (by omega)
              have CN2 := Lib.hid (CN.out _ HK2.out)
              have CN3 := Lib.hid (CN.out _ HK2.out.drew)
              go_wp2_with (first | (go_at_call 74; (with_reducible refine (C4.out _).mono ?_); rintro e w' ⟨rfl, rfl⟩) | (go_at_call 78; (with_reducible refine (CN2.out).mono ?_); rintro e w3 ⟨va, rfl, r3, o3, k3⟩; have HR3 := Lib.hid r3; have HO3 := Lib.hid o3; have HK3 : Hid (Keep (fun _ => False) w w3) := Lib.hid (HK2.out.trans k3 (fun _ h => h.elim)); have HKN := Lib.hid k3; have x2 := (HW.out w3 HK3.out).cell (i := 2) (by omega); clear r3 o3 k3) | (go_at_call 77; (with_reducible refine (CWD.out _).mono ?_); rintro e w' ⟨rfl, rfl⟩))
              go_ret
              exact .inr ⟨HNO.out, rfl, HK3.out.mono (fun _ _ h => h.elim)⟩
          | true =>
            obtain ⟨e0, e1, e2, e3, e4, e5, hes⟩ : ∃ e0 e1 e2 e3 e4 e5, es = [e0, e1, e2, e3, e4, e5] := by
              match es, hel with
              | [e0, e1, e2, e3, e4, e5], _ => exact ⟨e0, e1, e2, e3, e4, e5, rfl⟩
            rw [decide_eq_true (p := 0 ≤ kd) (by have := HKD.out; omega), hes] at HRF
            have HES := Lib.hid hes
            clear hes
            go_enter Tryz.func73, Tryz.ntmps73
            go_wp2_with (go_at_call 74; (with_reducible refine (C1.out _).mono ?_); rintro e w' ⟨rfl, rfl⟩)
            go_region_with (first
              | (go_at_call 149; (with_reducible refine (CK.out _).mono ?_); rintro e w2 ⟨vk, rfl, hs, hk⟩; have HKS := Lib.hid hs; have HK2 : Hid (Keep (fun _ => False) w w2) := Lib.hid (((Keep.refl _ w).drew).trans hk (fun _ h => h.elim)); have x3'' := (HW.out w2 HK2.out).cell (i := 3) (by omega); clear hs hk)
              | (go_at_call 75; (with_reducible refine (CW.out _ _ HKS.out).mono ?_); rintro e w' ⟨rfl, rfl⟩))
            all_goals
              have x4 := (HW.out _ (HK2.out.drew)).cell (i := 4) (by omega)
              have x4' := (HW.out _ HK2.out).cell (i := 4) (by omega)
              have CN2 := Lib.hid (CN.out _ HK2.out)
              have CN3 := Lib.hid (CN.out _ HK2.out.drew)
              go_wp2_with (first | (go_at_call 74; (with_reducible refine (C4.out _).mono ?_); rintro e w' ⟨rfl, rfl⟩) | (go_at_call 78; (with_reducible refine (CN2.out).mono ?_); rintro e w3 ⟨va, rfl, r3, o3, k3⟩; have HR3 := Lib.hid r3; have HO3 := Lib.hid o3; have HK3 : Hid (Keep (fun _ => False) w w3) := Lib.hid (HK2.out.trans k3 (fun _ h => h.elim)); have HKN := Lib.hid k3; have x2 := (HW.out w3 HK3.out).cell (i := 2) (by omega); clear r3 o3 k3) | (go_at_call 77; (with_reducible refine (CWD.out _).mono ?_); rintro e w' ⟨rfl, rfl⟩))
              obtain ⟨ae, ce, rfl, hce, hce2⟩ := HR3.out.slice
              unfold maxLen at hce2
              obtain ⟨ge, oe, cx, hvx, hce3, hce4⟩ := HR3.out.full (by omega)
              simp only [Value.slice.injEq] at hvx
              obtain ⟨rfl, -, rfl⟩ := hvx
              have HGE : Hid (ge < w3.heap.size) := Lib.hid (HR3.out.lt rfl)
              have HBX := Lib.hid (heap_alloc_new w3 (.cells #[.int .i64 n1, .string (atW l 2), .int .i64 kd, .int .i64 n4, .int .i64 0, .int .i64 0, .int .i64 0, .int .i64 0, .int .i64 0, .int .i64 0] 53))
              have HK4 : Hid (Keep (fun _ => False) w3 (w3.alloc (.cells #[.int .i64 n1, .string (atW l 2), .int .i64 kd, .int .i64 n4, .int .i64 0, .int .i64 0, .int .i64 0, .int .i64 0, .int .i64 0, .int .i64 0] 53))) := Lib.hid ((Keep.refl _ _).alloc _)
              have HS4 : Hid (w3.heap.size + 1 = (w3.alloc (.cells #[.int .i64 n1, .string (atW l 2), .int .i64 kd, .int .i64 n4, .int .i64 0, .int .i64 0, .int .i64 0, .int .i64 0, .int .i64 0, .int .i64 0] 53)).heap.size) := Lib.hid (by simp)
              generalize w3.alloc (.cells #[.int .i64 n1, .string (atW l 2), .int .i64 kd, .int .i64 n4, .int .i64 0, .int .i64 0, .int .i64 0, .int .i64 0, .int .i64 0, .int .i64 0] 53) = W4 at HBX HK4 HS4 ⊢
              obtain ⟨b9, hb9⟩ : ∃ b9, b9 = w3.heap.size := ⟨_, rfl⟩
              rw [← hb9] at HBX HGE HS4 ⊢
              have HB9 := Lib.hid hb9
              clear hb9 x2 x4 x4'
              go_loopw [13] (fun jv wq => RjR n1 (atW l 2) kd n4 es b9 W4 jv wq) (fun jv _ => 6 - (intOf jv).toNat)
              case atStart => exact ⟨0, by omega, rfl, HBX.out, Keep.refl _ _⟩
              case round =>
                obtain ⟨j, hj, rfl, hbx, hKj⟩ := hrel.ex
                have HBJ := Lib.hid hbx; have HKJ := Lib.hid hKj
                clear hbx hKj hrel
                by_cases hj6 : j < 6
                · have dj : decide (j < 6) = true := by simpa using hj6
                  have dj2 : decide ((j : Int) < 6) = true := by rw [decide_eq_true_eq]; omega
                  have ce1 : wr.cell? ⟨ge, oe + j, none⟩ = some (.int .i64 (es.getD j 0)) := (HKJ.out.cell (by have := HGE.out; have := HS4.out; omega) (by have := HGE.out; omega) _).trans ((HK4.out.cell (by have := HB9.out; have := HGE.out; omega) (fun h => h) _).trans (by rw [HR3.out.cellAt j (by omega)]; exact icells_get (by rw [List.getD_eq_getElem?_getD, List.getElem?_eq_getElem (by omega)]; rfl)))
                  have f1 := frozen_of_row wr b9 (4 + j) _ _ HBJ.out
                  have q1 : ∃ u, wr.cell? ⟨b9, 4 + j, none⟩ = some u := ⟨_, (cell_of_row wr b9 (4 + j) _ _ _ HBJ.out).trans (exF_cell _ hj6)⟩
                  obtain ⟨u1, q1⟩ := q1
                  have HBN : Hid ((wr.setCell ⟨b9, 4 + j, none⟩ (.int .i64 (es.getD j 0))).heap[b9]? = some (.cells (roomC (roomJ n1 (atW l 2) kd n4 es (j + 1))).toArray 53 (0, 0))) := Lib.hid (by rw [Joins.block_setCell HBJ.out, roomJ_set _ _ _ _ _ hj6])
                  generalize es.getD j 0 = en at *
                  go_wp2
                  go_roundw
                  case rel => exact ⟨j + 1, by omega, by go_num, HBN.out, HKJ.out.setCell _ _ (.inl rfl)⟩
                  case measure => simp [intOf]; omega
                · have dj : decide (j < 6) = false := by rw [decide_eq_false_iff_not]; omega
                  have dj2 : decide ((j : Int) < 6) = false := by rw [decide_eq_false_iff_not]; omega
                  obtain rfl : j = 6 := by omega
                  have HKA : Hid (Keep (fun _ => False) w wr) := Lib.hid ((HK3.out.trans HK4.out (fun _ h => h.elim)).trans HKJ.out (fun x hx => .inr (by have := HB9.out; have := HK3.out.size; omega)))
                  have HDB := Lib.hid (HV.out.keep HKA.out (fun _ _ _ h => h))
                  have p0 : wr.cell? ⟨d, 0, none⟩ = some (.slice a1 D.rooms.length c1) := (cell_of_row wr d 0 _ _ _ HDB.out.blk).trans rfl
                  have hds : d < wr.heap.size := lt_of_block HDB.out.blk
                  have hbs : b9 < wr.heap.size := lt_of_block HBJ.out
                  have q0 : wr.cell? ⟨b9, 0, none⟩ = some (.int .i64 n1) := (cell_of_row wr b9 0 _ _ _ HBJ.out).trans rfl
                  have q1 : wr.cell? ⟨b9, 1, none⟩ = some (.string (atW l 2)) := (cell_of_row wr b9 1 _ _ _ HBJ.out).trans rfl
                  have q2 : wr.cell? ⟨b9, 2, none⟩ = some (.int .i64 kd) := (cell_of_row wr b9 2 _ _ _ HBJ.out).trans rfl
                  have q3 : wr.cell? ⟨b9, 3, none⟩ = some (.int .i64 n4) := (cell_of_row wr b9 3 _ _ _ HBJ.out).trans rfl
                  have q4 : wr.cell? ⟨b9, 4, none⟩ = some (.int .i64 e0) := (cell_of_row wr b9 4 _ _ _ HBJ.out).trans (by rw [HES.out]; rfl)
                  have q5 : wr.cell? ⟨b9, 5, none⟩ = some (.int .i64 e1) := (cell_of_row wr b9 5 _ _ _ HBJ.out).trans (by rw [HES.out]; rfl)
                  have q6 : wr.cell? ⟨b9, 6, none⟩ = some (.int .i64 e2) := (cell_of_row wr b9 6 _ _ _ HBJ.out).trans (by rw [HES.out]; rfl)
                  have q7 : wr.cell? ⟨b9, 7, none⟩ = some (.int .i64 e3) := (cell_of_row wr b9 7 _ _ _ HBJ.out).trans (by rw [HES.out]; rfl)
                  have q8 : wr.cell? ⟨b9, 8, none⟩ = some (.int .i64 e4) := (cell_of_row wr b9 8 _ _ _ HBJ.out).trans (by rw [HES.out]; rfl)
                  have q9 : wr.cell? ⟨b9, 9, none⟩ = some (.int .i64 e5) := (cell_of_row wr b9 9 _ _ _ HBJ.out).trans (by rw [HES.out]; rfl)
                  obtain ⟨X9, hX9⟩ : ∃ X9, X9 = (wr.alloc (.cells (roomC ⟨n1, atW l 2, kd, n4, e0, e1, e2, e3, e4, e5⟩).toArray 53)).drew := ⟨_, rfl⟩
                  have HKX : Hid (Keep (fun _ => False) wr X9) := Lib.hid (by rw [hX9]; exact ((Keep.refl _ wr).alloc _).drew)
                  have HDX := Lib.hid (HDB.out.keep HKX.out (fun _ _ _ h => h))
                  have HRX : Hid (Row X9 53 10 (.slice (some ⟨wr.heap.size, 0, none⟩) 1 1) 1 (roomC ⟨n1, atW l 2, kd, n4, e0, e1, e2, e3, e4, e5⟩)) := Lib.hid (by rw [hX9]; exact (Row.made (w := wr) (roomC ⟨n1, atW l 2, kd, n4, e0, e1, e2, e3, e4, e5⟩).toArray wr.heap.size 1 rfl (by simp [maxLen]) (by simp [roomC])).drew)
                  have hX : (wr.alloc (.cells #[.int .i64 n1, .string (atW l 2), .int .i64 kd, .int .i64 n4, .int .i64 e0, .int .i64 e1, .int .i64 e2, .int .i64 e3, .int .i64 e4, .int .i64 e5] 53)).drew = X9 := hX9.symm
                  have HXE := Lib.hid hX
                  clear hX9 hX
                  go_wp2
                  go_region_law (rw [HXE.out]; refine step_append_row rfl (.tmp 85) (.tmp 87) rfl Tryz.underlying43 hi0 hz0 hz1 hz2 rfl (by simp [go_sem]) HDX.out.l1 (by simp [go_sem]) (HRX.out.src Tryz.underlying43 (by simp [roomC, Value.oneCell'])) (by unfold maxLen; omega) (by omega) ?_; intro v9 w9 r1 r2 r3 _; obtain ⟨a9, c9, rfl, _, _⟩ := r1.slice; have nd : ¬ (Value.slice a1 D.rooms.length c1).ownBlock = some d := fun e => (by obtain ⟨cs, f, hb⟩ := HDX.out.l1.type e; exact ty_ne HDX.out.blk hb (by decide) rfl); have hb9 : w9.heap[d]? = some (.cells #[.slice a1 D.rooms.length c1, v2, v3, v4, v5, v6] 50 (0, 0)) := (r2.block d (lt_of_block HDX.out.blk) nd).trans HDX.out.blk; have f9 : w9.frozen? ⟨d, 0, none⟩ = false := frozen_of_row _ _ _ _ _ hb9; have c9' : w9.cell? ⟨d, 0, none⟩ = some (.slice a1 D.rooms.length c1) := (cell_of_row _ _ _ _ _ _ hb9).trans rfl; have R1 := Lib.hid r1; have R2 := Lib.hid r2; have R3 := Lib.hid r3; clear r1 r2 r3 hb9 nd)
                  all_goals go_simp
                  all_goals go_wp2
                  all_goals go_ret
                  all_goals
                    refine .inl ⟨_, _, _, _, _, _, _, _, _, HRF.out, rfl, HDX.out.put1 ?_ R2.out (fun b hb => R3.out b hb |>.imp id (fun h => h.1)), ?_⟩
                    · have := R1.out
                      unfold Rec
                      rw [List.length_append, List.length_singleton, flat_append, flat_one]
                      exact this
                    · exact Keep.setCell ((((HKA.out.trans HKX.out (fun _ h => h.elim)).mono (fun _ _ h => h.elim)).trans R2.out (fun b hb => .inl (HDX.out.o1 b hb)))) _ _ (.inl HDX.out.base.1)
end Go.Proofs.YtcodbomgodkcmaaGreatDoor.Wd
