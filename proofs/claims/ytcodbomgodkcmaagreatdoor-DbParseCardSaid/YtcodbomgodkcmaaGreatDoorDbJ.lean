/- World files: a row more (made by tools/gendj.py). -/
import Derived.Test.YtcodbomgodkcmaaGreatDoorDbI
import Derived.Test.YtcodbomgodkcmaaGreatDoorDbO
import Derived.Test.YtcodbomgodkcmaaGreatDoorDbY
namespace Go.Proofs.YtcodbomgodkcmaaGreatDoor.Wd
open Go.RowKit Go.Maps Go.Proofs.YtcodbomgodkcmaaGreatDoor Go.Proofs.YtcodbomgodkcmaaGreatDoor.Lin
set_option maxRecDepth 100000

theorem off_reader {w : World} {p : Nat} {r : List ByteArray} (h : RdAt w p r) : Off (fun b => b = p) w := fun b cs t f hb e => by
  subst hb
  obtain ⟨v, h1, _⟩ := h.ex
  rw [h1] at e
  simp only [Option.some.injEq, Obj.cells.injEq] at e
  obtain ⟨_, rfl, _⟩ := e
  decide

/-- append of one record, as one step of a region that draws its order (as in DbH). -/
theorem step_append_rowJ {P : Program} {w : World} {ops : Array Oper} {o : Oper} {a : Act} {K : Act → World → Prop} {Q : Exit → Act → World → Prop} {E : Prop} (hgd : o.guard = none) (s x : Operand) {t tx : TypeId}
    (ho : o.op = .call { callee := .builtin .append, args := #[s, x], argTypes := #[t, tx] })
    {e : TypeId} {i : TypeInfo} {z : Value} {size bytes : Nat} (ht : P.underlying t = some (.slice e)) (hi : P.info? e = some i) (hz : i.zero = some z)
    (hsize : i.size = size) (hby : i.bytes = bytes) (hzs : z.cells.size = size)
    {v : Value} {n : Nat} {xs : List Value} (hv : a.eval s = v) (h : Row w e size v n xs) {vx : Value} (hx : a.eval x = vx) {m : Nat} {news : List Value} (hs : Src P size tx vx m news w)
    (h63 : n + m ≤ maxLen) (hbytes : (n + m) * bytes ≤ 140737488355328)
    (hK : ∀ v' w', Row w' e size v' (n + m) (xs ++ news) → Keep (fun b => v.ownBlock = some b) w w' → (∀ b, v'.ownBlock = some b → v.ownBlock = some b ∨ (w.heap.size ≤ b ∧ b < w'.heap.size)) →
      (v' = .slice none 0 0 ↔ v = .slice none 0 0 ∧ m = 0) → K (a.put o.dst v') w') : if Region.wanted o (yielded ops a.tmps) = true then Oper.wp P o a w K Q else E := by
  have hw : Region.wanted o (yielded ops a.tmps) = true := by simp [Region.wanted, hgd]
  rw [if_pos hw]
  obtain ⟨v', w', hr, h2, h3, h4, h5⟩ := run_append_row (P := P) w o.type ht hi hz hsize hby hzs h hs h63 hbytes
  unfold Oper.wp execOp
  simp only [ho, resolve, invoke, builtin, Sem.run_bind, Sem.run_pure, Result.andThen_ok, List.map_toArray, List.map_cons, List.map_nil, hv, hx, hr]
  exact hK v' w' h2 h3 h4 h5

theorem zJRoom : ∃ Z : Array Value, Hid (∀ w : World, (zeroValue 53).run Tryz.prog w = .ok (.agg Z) w) ∧ Hid (Z.size = 10) :=
  ⟨#[.int .i64 0, .string ⟨#[]⟩, .int .i64 0, .int .i64 0, .int .i64 0, .int .i64 0, .int .i64 0, .int .i64 0, .int .i64 0, .int .i64 0], Lib.hid (fun w => by kernel_rfl), Lib.hid rfl⟩
theorem Tryz.infoJRoom : (Tryz.prog.info? 53).map (·.size) = some 10 := by kernel_rfl
theorem elJRoom : ∃ (i : TypeInfo) (z : Value) (by_ : Nat), Tryz.prog.info? 53 = some i ∧ i.zero = some z ∧ i.size = 10 ∧ i.bytes = by_ ∧ z.cells.size = 10 ∧ by_ ≤ 100 := by
  have h : (Tryz.prog.info? 53).bind (fun i => i.zero.map fun z => (i.size, decide (i.bytes ≤ 100), z.cells.size)) = some (10, true, 10) := by kernel_rfl
  obtain ⟨i, h1, h2⟩ := Option.bind_eq_some_iff.1 h
  obtain ⟨z, h3, h4⟩ := Option.map_eq_some_iff.1 h2
  simp only [Prod.mk.injEq, decide_eq_true_eq] at h4
  exact ⟨i, z, _, h1, h3, h4.1, rfl, h4.2.2, h4.2.1⟩
set_option maxHeartbeats 8000000 in
theorem addRoom_any {w : World} {B : Nat → Prop} {d : Nat} {D : DbM} {v1 v2 v3 v4 v5 v6 : Value} {rr : List (RecM × Value)} {ss : List (ShopM × Value)} (h : DbO B w d D v1 v2 v3 v4 v5 v6 rr ss) {p : Nat} {r : List ByteArray} (hr : RdAt w p r) (hs : ShortW r) (hT : T12B B w) (hp : B p) (_hl : r.length ≤ 1000000) (hn : D.rooms.length ≤ 1000000) :
    Calls Tryz.prog 41 #[.pointer (some ⟨d, 0, none⟩), .pointer (some ⟨p, 0, none⟩), .func (.func 42) #[] #[], .func (.func 43) #[] #[]] w (AddA B w d D (if r.drop 10 = [] ∧ okRoom (roomP r) = true then some (.room (roomP r)) else none)) := by
  have HO := Lib.hid h
  have HOFF := Lib.hid (off_reader hr)
  have HRD := Lib.hid (rdRoom_any hr hs hT hp)
  have HNM : Hid ((roomP r).name.size ≤ 1000000) := Lib.hid (hs.at 1)
  obtain ⟨x, hx⟩ : ∃ x, x = roomP r := ⟨_, rfl⟩
  rw [← hx] at HRD HNM ⊢
  have HP := Lib.hid hp
  obtain ⟨Z, HZ, HZS⟩ := zJRoom
  have HI9 := Lib.hid Tryz.infoJRoom
  obtain ⟨i0, z0, by0, hi0, hz0, hz1, hz2, hz3, hz4⟩ := elJRoom
  obtain ⟨a1, c1, rfl, hcr, hcr2⟩ := h.v.l1.slice
  unfold maxLen at hcr2
  have CI : Hid (∀ w9 : World, Calls Tryz.prog 43 #[.agg #[.int .i64 x.id, .string x.name, .int .i64 x.kind, .int .i64 x.price, .int .i64 x.e0, .int .i64 x.e1, .int .i64 x.e2, .int .i64 x.e3, .int .i64 x.e4, .int .i64 x.e5]] w9 fun e w' => e = .returned (.bool (okRoom x)) ∧ Keep (fun _ => False) w9 w') := Lib.hid (fun w9 => isRoom_any (w := w9) x HNM.out)
  clear h hr hs hT hp _hl hx
  by_cases hd : r.drop 10 = []
  · have hd0 : (r.drop 10).length = 0 := by rw [hd]; rfl
    have HD0 := Lib.hid hd0
    clear hd0
    cases hk : okRoom x with
    | false =>
      rw [if_neg (fun hh => by have := hh.2; simp at this)]
      rw [hk] at CI
      clear hk
      go_enter Tryz.func41, Tryz.ntmps41
      go_wp2_with (first
        | (go_at_call 42; (refine HRD.out.mono ?_); rintro e w1 ⟨rfl, r1, k1⟩; have R1 := Lib.hid r1; have K1 := Lib.hid k1; have H1 := Lib.hid (HO.out.keepT k1 HOFF.out); clear r1 k1)
        | (refine wpList_var_any (C := (roomC x).toArray) HZ.out HI9.out HZS.out (by simp [roomC, Value.oneCell']) rfl rfl rfl (.tmp 9) (.tmp 12) rfl rfl rfl ?_; intro W1 B1 hb1 hk1; have HB := Lib.hid hb1; have KA := Lib.hid hk1; have H2 := Lib.hid (H1.out.keep0 hk1); obtain ⟨rv, hrv, hrs, _⟩ := (R1.out.keep0 hk1).ex; obtain ⟨_, ra, rc, rfl, hrc1, hrc2, _⟩ := hrs; unfold maxLen at hrc2; have cp : W1.cell? ⟨p, 0, none⟩ = some (.slice ra (r.drop 10).length rc) := (cell_of_row W1 p 0 _ _ _ hrv).trans rfl; rw [HD0.out] at cp; have cc0 : W1.cell? ⟨B1, 0, none⟩ = some (.int .i64 x.id) := (cell_of_row W1 B1 0 _ _ _ hb1).trans rfl; have cc1 : W1.cell? ⟨B1, 1, none⟩ = some (.string x.name) := (cell_of_row W1 B1 1 _ _ _ hb1).trans rfl; have cc2 : W1.cell? ⟨B1, 2, none⟩ = some (.int .i64 x.kind) := (cell_of_row W1 B1 2 _ _ _ hb1).trans rfl; have cc3 : W1.cell? ⟨B1, 3, none⟩ = some (.int .i64 x.price) := (cell_of_row W1 B1 3 _ _ _ hb1).trans rfl; have cc4 : W1.cell? ⟨B1, 4, none⟩ = some (.int .i64 x.e0) := (cell_of_row W1 B1 4 _ _ _ hb1).trans rfl; have cc5 : W1.cell? ⟨B1, 5, none⟩ = some (.int .i64 x.e1) := (cell_of_row W1 B1 5 _ _ _ hb1).trans rfl; have cc6 : W1.cell? ⟨B1, 6, none⟩ = some (.int .i64 x.e2) := (cell_of_row W1 B1 6 _ _ _ hb1).trans rfl; have cc7 : W1.cell? ⟨B1, 7, none⟩ = some (.int .i64 x.e3) := (cell_of_row W1 B1 7 _ _ _ hb1).trans rfl; have cc8 : W1.cell? ⟨B1, 8, none⟩ = some (.int .i64 x.e4) := (cell_of_row W1 B1 8 _ _ _ hb1).trans rfl; have cc9 : W1.cell? ⟨B1, 9, none⟩ = some (.int .i64 x.e5) := (cell_of_row W1 B1 9 _ _ _ hb1).trans rfl; clear hb1 hk1 hrv; simp only [Act.put, List.setIfInBounds_toArray, List.set_cons_succ, List.set_cons_zero])
        | (go_at_call 43; (refine (CI.out _).mono ?_); rintro e w2 ⟨rfl, k2⟩; have K2 := Lib.hid k2; clear k2))
      go_ret
      exact .inr ⟨rfl, rfl, ((K1.out.mono (fun b _ hb => hb ▸ HP.out)).trans KA.out (fun _ h => h.elim)).trans K2.out (fun _ h => h.elim)⟩
    | true =>
      rw [if_pos ⟨hd, rfl⟩]
      rw [hk] at CI
      clear hk hd
      go_enter Tryz.func41, Tryz.ntmps41
      go_wp2_with (first
        | (go_at_call 42; (refine HRD.out.mono ?_); rintro e w1 ⟨rfl, r1, k1⟩; have R1 := Lib.hid r1; have K1 := Lib.hid k1; have H1 := Lib.hid (HO.out.keepT k1 HOFF.out); clear r1 k1)
        | (refine wpList_var_any (C := (roomC x).toArray) HZ.out HI9.out HZS.out (by simp [roomC, Value.oneCell']) rfl rfl rfl (.tmp 9) (.tmp 12) rfl rfl rfl ?_; intro W1 B1 hb1 hk1; have HB := Lib.hid hb1; have KA := Lib.hid hk1; have H2 := Lib.hid (H1.out.keep0 hk1); obtain ⟨rv, hrv, hrs, _⟩ := (R1.out.keep0 hk1).ex; obtain ⟨_, ra, rc, rfl, hrc1, hrc2, _⟩ := hrs; unfold maxLen at hrc2; have cp : W1.cell? ⟨p, 0, none⟩ = some (.slice ra (r.drop 10).length rc) := (cell_of_row W1 p 0 _ _ _ hrv).trans rfl; rw [HD0.out] at cp; have cc0 : W1.cell? ⟨B1, 0, none⟩ = some (.int .i64 x.id) := (cell_of_row W1 B1 0 _ _ _ hb1).trans rfl; have cc1 : W1.cell? ⟨B1, 1, none⟩ = some (.string x.name) := (cell_of_row W1 B1 1 _ _ _ hb1).trans rfl; have cc2 : W1.cell? ⟨B1, 2, none⟩ = some (.int .i64 x.kind) := (cell_of_row W1 B1 2 _ _ _ hb1).trans rfl; have cc3 : W1.cell? ⟨B1, 3, none⟩ = some (.int .i64 x.price) := (cell_of_row W1 B1 3 _ _ _ hb1).trans rfl; have cc4 : W1.cell? ⟨B1, 4, none⟩ = some (.int .i64 x.e0) := (cell_of_row W1 B1 4 _ _ _ hb1).trans rfl; have cc5 : W1.cell? ⟨B1, 5, none⟩ = some (.int .i64 x.e1) := (cell_of_row W1 B1 5 _ _ _ hb1).trans rfl; have cc6 : W1.cell? ⟨B1, 6, none⟩ = some (.int .i64 x.e2) := (cell_of_row W1 B1 6 _ _ _ hb1).trans rfl; have cc7 : W1.cell? ⟨B1, 7, none⟩ = some (.int .i64 x.e3) := (cell_of_row W1 B1 7 _ _ _ hb1).trans rfl; have cc8 : W1.cell? ⟨B1, 8, none⟩ = some (.int .i64 x.e4) := (cell_of_row W1 B1 8 _ _ _ hb1).trans rfl; have cc9 : W1.cell? ⟨B1, 9, none⟩ = some (.int .i64 x.e5) := (cell_of_row W1 B1 9 _ _ _ hb1).trans rfl; clear hb1 hk1 hrv; simp only [Act.put, List.setIfInBounds_toArray, List.set_cons_succ, List.set_cons_zero])
        | (go_at_call 43; (refine (CI.out _).mono ?_); rintro e w2 ⟨rfl, k2⟩; have K2 := Lib.hid k2; have hb2 : w2.heap[B1]? = some (.cells (roomC x).toArray 53 (0, 0)) := (k2.block B1 (lt_of_block HB.out) (fun h => h)).trans HB.out; have H3 := Lib.hid (H2.out.keep0 k2); have p0 : w2.cell? ⟨d, 0, none⟩ = some (.slice a1 D.rooms.length c1) := (cell_of_row w2 d 0 _ _ _ H3.out.v.blk).trans rfl; have q0 : w2.cell? ⟨B1, 0, none⟩ = some (.int .i64 x.id) := (cell_of_row w2 B1 0 _ _ _ hb2).trans rfl; have q1 : w2.cell? ⟨B1, 1, none⟩ = some (.string x.name) := (cell_of_row w2 B1 1 _ _ _ hb2).trans rfl; have q2 : w2.cell? ⟨B1, 2, none⟩ = some (.int .i64 x.kind) := (cell_of_row w2 B1 2 _ _ _ hb2).trans rfl; have q3 : w2.cell? ⟨B1, 3, none⟩ = some (.int .i64 x.price) := (cell_of_row w2 B1 3 _ _ _ hb2).trans rfl; have q4 : w2.cell? ⟨B1, 4, none⟩ = some (.int .i64 x.e0) := (cell_of_row w2 B1 4 _ _ _ hb2).trans rfl; have q5 : w2.cell? ⟨B1, 5, none⟩ = some (.int .i64 x.e1) := (cell_of_row w2 B1 5 _ _ _ hb2).trans rfl; have q6 : w2.cell? ⟨B1, 6, none⟩ = some (.int .i64 x.e2) := (cell_of_row w2 B1 6 _ _ _ hb2).trans rfl; have q7 : w2.cell? ⟨B1, 7, none⟩ = some (.int .i64 x.e3) := (cell_of_row w2 B1 7 _ _ _ hb2).trans rfl; have q8 : w2.cell? ⟨B1, 8, none⟩ = some (.int .i64 x.e4) := (cell_of_row w2 B1 8 _ _ _ hb2).trans rfl; have q9 : w2.cell? ⟨B1, 9, none⟩ = some (.int .i64 x.e5) := (cell_of_row w2 B1 9 _ _ _ hb2).trans rfl; clear hb2; clear cc0 cc1 cc2 cc3 cc4 cc5 cc6 cc7 cc8 cc9; clear k2))
      have HKW : Hid (Keep (fun b => B b) w w2) := Lib.hid (((K1.out.mono (fun b _ hb => hb ▸ HP.out)).trans KA.out (fun _ h => h.elim)).trans K2.out (fun _ h => h.elim))
      obtain ⟨X9, hX9⟩ : ∃ X9, X9 = (w2.alloc (.cells (roomC x).toArray 53)).drew := ⟨_, rfl⟩
      have HKX : Hid (Keep (fun _ => False) w2 X9) := Lib.hid (by rw [hX9]; exact ((Keep.refl _ w2).alloc _).drew)
      have HDX := Lib.hid (H3.out.keep0 HKX.out)
      have HRX : Hid (Row X9 53 10 (.slice (some ⟨w2.heap.size, 0, none⟩) 1 1) 1 (roomC x)) := Lib.hid (by rw [hX9]; exact (Row.made (w := w2) (roomC x).toArray w2.heap.size 1 rfl (by simp [maxLen]) (by simp [roomC])).drew)
      have hX : (w2.alloc (.cells #[.int .i64 x.id, .string x.name, .int .i64 x.kind, .int .i64 x.price, .int .i64 x.e0, .int .i64 x.e1, .int .i64 x.e2, .int .i64 x.e3, .int .i64 x.e4, .int .i64 x.e5] 53)).drew = X9 := hX9.symm
      have HXE := Lib.hid hX
      have hds : d < w2.heap.size := lt_of_block H3.out.v.blk
      have hbs : B1 < w2.heap.size := Nat.lt_of_lt_of_le (lt_of_block HB.out) K2.out.size
      clear hX9 hX
      go_wp2
      go_region_law (rw [HXE.out]; refine step_append_rowJ rfl (.tmp 28) (.tmp 30) rfl Tryz.underlying43 hi0 hz0 hz1 hz2 hz3 (by simp [go_sem]) HDX.out.v.l1 (by simp [go_sem]) (HRX.out.src Tryz.underlying43 (by simp [roomC, Value.oneCell'])) (by unfold maxLen; omega) (by have := Nat.mul_le_mul_left (D.rooms.length + 1) hz4; omega) ?_; intro v9 w9 r1 r2 r3 _; obtain ⟨a9, c9, rfl, _, _⟩ := r1.slice; have nd : ¬ (Value.slice a1 D.rooms.length c1).ownBlock = some d := fun e => (by obtain ⟨cs, f, hb⟩ := HDX.out.v.l1.type e; exact ty_ne HDX.out.v.blk hb (by decide) rfl); have hb9 : w9.heap[d]? = some (.cells #[.slice a1 D.rooms.length c1, v2, v3, v4, v5, v6] 50 (0, 0)) := (r2.block d (lt_of_block HDX.out.v.blk) nd).trans HDX.out.v.blk; have f9 : w9.frozen? ⟨d, 0, none⟩ = false := frozen_of_row _ _ _ _ _ hb9; have c9' : w9.cell? ⟨d, 0, none⟩ = some (.slice a1 D.rooms.length c1) := (cell_of_row _ _ _ _ _ _ hb9).trans rfl; have R1' := Lib.hid r1; have R2 := Lib.hid r2; have R3 := Lib.hid r3; clear r1 r2 r3 hb9 nd)
      all_goals go_simp
      all_goals go_wp2
      all_goals go_ret
      all_goals
        refine .inl ⟨_, _, _, _, _, _, _, _, _, rfl, rfl, HDX.out.put1 ?_ R2.out (fun b hb => R3.out b hb |>.imp id (fun h => h.1)), ?_⟩
        · have := R1'.out
          unfold Rec
          rw [List.length_append, List.length_singleton, flat_append, flat_one]
          exact this
        · exact Keep.setCell (((HKW.out.trans HKX.out (fun _ h => h.elim)).trans R2.out (fun b hb => .inl (HDX.out.v.o1 b hb)))) _ _ (.inl HDX.out.v.base.1)
  · rw [if_neg (fun hh => hd hh.1)]
    have hpos := List.length_pos_iff.2 hd
    obtain ⟨m, hmm⟩ : ∃ m, m = (r.drop 10).length := ⟨_, rfl⟩
    rw [← hmm] at hpos
    have hg1 : decide (0 < (m : Int)) = true := by rw [decide_eq_true_eq]; omega
    have hg2 : decide (0 < m) = true := by rw [decide_eq_true_eq]; omega
    have HMM := Lib.hid hmm
    clear hd hmm
    go_enter Tryz.func41, Tryz.ntmps41
    go_wp2_with (first
      | (go_at_call 42; (refine HRD.out.mono ?_); rintro e w1 ⟨rfl, r1, k1⟩; have R1 := Lib.hid r1; have K1 := Lib.hid k1; have H1 := Lib.hid (HO.out.keepT k1 HOFF.out); clear r1 k1)
      | (refine wpList_var_any (C := (roomC x).toArray) HZ.out HI9.out HZS.out (by simp [roomC, Value.oneCell']) rfl rfl rfl (.tmp 9) (.tmp 12) rfl rfl rfl ?_; intro W1 B1 hb1 hk1; have HB := Lib.hid hb1; have KA := Lib.hid hk1; have H2 := Lib.hid (H1.out.keep0 hk1); obtain ⟨rv, hrv, hrs, _⟩ := (R1.out.keep0 hk1).ex; obtain ⟨_, ra, rc, rfl, hrc1, hrc2, _⟩ := hrs; unfold maxLen at hrc2; have cp : W1.cell? ⟨p, 0, none⟩ = some (.slice ra (r.drop 10).length rc) := (cell_of_row W1 p 0 _ _ _ hrv).trans rfl; rw [← HMM.out] at cp; have cc0 : W1.cell? ⟨B1, 0, none⟩ = some (.int .i64 x.id) := (cell_of_row W1 B1 0 _ _ _ hb1).trans rfl; have cc1 : W1.cell? ⟨B1, 1, none⟩ = some (.string x.name) := (cell_of_row W1 B1 1 _ _ _ hb1).trans rfl; have cc2 : W1.cell? ⟨B1, 2, none⟩ = some (.int .i64 x.kind) := (cell_of_row W1 B1 2 _ _ _ hb1).trans rfl; have cc3 : W1.cell? ⟨B1, 3, none⟩ = some (.int .i64 x.price) := (cell_of_row W1 B1 3 _ _ _ hb1).trans rfl; have cc4 : W1.cell? ⟨B1, 4, none⟩ = some (.int .i64 x.e0) := (cell_of_row W1 B1 4 _ _ _ hb1).trans rfl; have cc5 : W1.cell? ⟨B1, 5, none⟩ = some (.int .i64 x.e1) := (cell_of_row W1 B1 5 _ _ _ hb1).trans rfl; have cc6 : W1.cell? ⟨B1, 6, none⟩ = some (.int .i64 x.e2) := (cell_of_row W1 B1 6 _ _ _ hb1).trans rfl; have cc7 : W1.cell? ⟨B1, 7, none⟩ = some (.int .i64 x.e3) := (cell_of_row W1 B1 7 _ _ _ hb1).trans rfl; have cc8 : W1.cell? ⟨B1, 8, none⟩ = some (.int .i64 x.e4) := (cell_of_row W1 B1 8 _ _ _ hb1).trans rfl; have cc9 : W1.cell? ⟨B1, 9, none⟩ = some (.int .i64 x.e5) := (cell_of_row W1 B1 9 _ _ _ hb1).trans rfl; clear hb1 hk1 hrv; simp only [Act.put, List.setIfInBounds_toArray, List.set_cons_succ, List.set_cons_zero]))
    go_ret
    exact .inr ⟨rfl, rfl, (K1.out.mono (fun b _ hb => hb ▸ HP.out)).trans KA.out (fun _ h => h.elim)⟩

theorem zJProto : ∃ Z : Array Value, Hid (∀ w : World, (zeroValue 78).run Tryz.prog w = .ok (.agg Z) w) ∧ Hid (Z.size = 5) :=
  ⟨#[.int .i64 0, .string ⟨#[]⟩, .int .i64 0, .int .i64 0, .int .i64 0], Lib.hid (fun w => by kernel_rfl), Lib.hid rfl⟩
theorem Tryz.infoJProto : (Tryz.prog.info? 78).map (·.size) = some 5 := by kernel_rfl
theorem elJProto : ∃ (i : TypeInfo) (z : Value) (by_ : Nat), Tryz.prog.info? 78 = some i ∧ i.zero = some z ∧ i.size = 5 ∧ i.bytes = by_ ∧ z.cells.size = 5 ∧ by_ ≤ 100 := by
  have h : (Tryz.prog.info? 78).bind (fun i => i.zero.map fun z => (i.size, decide (i.bytes ≤ 100), z.cells.size)) = some (5, true, 5) := by kernel_rfl
  obtain ⟨i, h1, h2⟩ := Option.bind_eq_some_iff.1 h
  obtain ⟨z, h3, h4⟩ := Option.map_eq_some_iff.1 h2
  simp only [Prod.mk.injEq, decide_eq_true_eq] at h4
  exact ⟨i, z, _, h1, h3, h4.1, rfl, h4.2.2, h4.2.1⟩
set_option maxHeartbeats 8000000 in
theorem addProto_any {w : World} {B : Nat → Prop} {d : Nat} {D : DbM} {v1 v2 v3 v4 v5 v6 : Value} {rr : List (RecM × Value)} {ss : List (ShopM × Value)} (h : DbO B w d D v1 v2 v3 v4 v5 v6 rr ss) {p : Nat} {r : List ByteArray} (hr : RdAt w p r) (hs : ShortW r) (hT : T12B B w) (hp : B p) (hl : r.length ≤ 1000000) (hn : D.protos.length ≤ 1000000) :
    Calls Tryz.prog 44 #[.pointer (some ⟨d, 1, none⟩), .pointer (some ⟨p, 0, none⟩), .func (.func 45) #[] #[], .func (.func 46) #[] #[]] w (AddA B w d D (if r.drop 5 = [] ∧ okProto (protoP r) = true then some (.proto (protoP r)) else none)) := by
  have HO := Lib.hid h
  have HOFF := Lib.hid (off_reader hr)
  have HRD := Lib.hid (rdProto_any hr hs hT hp hl)
  have HNM : Hid ((protoP r).name.size ≤ 1000000) := Lib.hid (hs.at 1)
  obtain ⟨x, hx⟩ : ∃ x, x = protoP r := ⟨_, rfl⟩
  rw [← hx] at HRD HNM ⊢
  have HP := Lib.hid hp
  obtain ⟨Z, HZ, HZS⟩ := zJProto
  have HI9 := Lib.hid Tryz.infoJProto
  obtain ⟨i0, z0, by0, hi0, hz0, hz1, hz2, hz3, hz4⟩ := elJProto
  obtain ⟨a1, c1, rfl, hcr, hcr2⟩ := h.v.l2.slice
  unfold maxLen at hcr2
  have CI : Hid (∀ w9 : World, Calls Tryz.prog 46 #[.agg #[.int .i64 x.id, .string x.name, .int .i64 x.slot, .int .i64 x.power, .int .i64 x.price]] w9 fun e w' => e = .returned (.bool (okProto x)) ∧ Keep (fun _ => False) w9 w') := Lib.hid (fun w9 => isProto_any (w := w9) x HNM.out)
  clear h hr hs hT hp hl hx
  by_cases hd : r.drop 5 = []
  · have hd0 : (r.drop 5).length = 0 := by rw [hd]; rfl
    have HD0 := Lib.hid hd0
    clear hd0
    cases hk : okProto x with
    | false =>
      rw [if_neg (fun hh => by have := hh.2; simp at this)]
      rw [hk] at CI
      clear hk
      go_enter Tryz.func44, Tryz.ntmps44
      go_wp2_with (first
        | (go_at_call 45; (refine HRD.out.mono ?_); rintro e w1 ⟨rfl, r1, k1⟩; have R1 := Lib.hid r1; have K1 := Lib.hid k1; have H1 := Lib.hid (HO.out.keepT k1 HOFF.out); clear r1 k1)
        | (refine wpList_var_any (C := (protoC x).toArray) HZ.out HI9.out HZS.out (by simp [protoC, Value.oneCell']) rfl rfl rfl (.tmp 9) (.tmp 12) rfl rfl rfl ?_; intro W1 B1 hb1 hk1; have HB := Lib.hid hb1; have KA := Lib.hid hk1; have H2 := Lib.hid (H1.out.keep0 hk1); obtain ⟨rv, hrv, hrs, _⟩ := (R1.out.keep0 hk1).ex; obtain ⟨_, ra, rc, rfl, hrc1, hrc2, _⟩ := hrs; unfold maxLen at hrc2; have cp : W1.cell? ⟨p, 0, none⟩ = some (.slice ra (r.drop 5).length rc) := (cell_of_row W1 p 0 _ _ _ hrv).trans rfl; rw [HD0.out] at cp; have cc0 : W1.cell? ⟨B1, 0, none⟩ = some (.int .i64 x.id) := (cell_of_row W1 B1 0 _ _ _ hb1).trans rfl; have cc1 : W1.cell? ⟨B1, 1, none⟩ = some (.string x.name) := (cell_of_row W1 B1 1 _ _ _ hb1).trans rfl; have cc2 : W1.cell? ⟨B1, 2, none⟩ = some (.int .i64 x.slot) := (cell_of_row W1 B1 2 _ _ _ hb1).trans rfl; have cc3 : W1.cell? ⟨B1, 3, none⟩ = some (.int .i64 x.power) := (cell_of_row W1 B1 3 _ _ _ hb1).trans rfl; have cc4 : W1.cell? ⟨B1, 4, none⟩ = some (.int .i64 x.price) := (cell_of_row W1 B1 4 _ _ _ hb1).trans rfl; clear hb1 hk1 hrv; simp only [Act.put, List.setIfInBounds_toArray, List.set_cons_succ, List.set_cons_zero])
        | (go_at_call 46; (refine (CI.out _).mono ?_); rintro e w2 ⟨rfl, k2⟩; have K2 := Lib.hid k2; clear k2))
      go_ret
      exact .inr ⟨rfl, rfl, ((K1.out.mono (fun b _ hb => hb ▸ HP.out)).trans KA.out (fun _ h => h.elim)).trans K2.out (fun _ h => h.elim)⟩
    | true =>
      rw [if_pos ⟨hd, rfl⟩]
      rw [hk] at CI
      clear hk hd
      go_enter Tryz.func44, Tryz.ntmps44
      go_wp2_with (first
        | (go_at_call 45; (refine HRD.out.mono ?_); rintro e w1 ⟨rfl, r1, k1⟩; have R1 := Lib.hid r1; have K1 := Lib.hid k1; have H1 := Lib.hid (HO.out.keepT k1 HOFF.out); clear r1 k1)
        | (refine wpList_var_any (C := (protoC x).toArray) HZ.out HI9.out HZS.out (by simp [protoC, Value.oneCell']) rfl rfl rfl (.tmp 9) (.tmp 12) rfl rfl rfl ?_; intro W1 B1 hb1 hk1; have HB := Lib.hid hb1; have KA := Lib.hid hk1; have H2 := Lib.hid (H1.out.keep0 hk1); obtain ⟨rv, hrv, hrs, _⟩ := (R1.out.keep0 hk1).ex; obtain ⟨_, ra, rc, rfl, hrc1, hrc2, _⟩ := hrs; unfold maxLen at hrc2; have cp : W1.cell? ⟨p, 0, none⟩ = some (.slice ra (r.drop 5).length rc) := (cell_of_row W1 p 0 _ _ _ hrv).trans rfl; rw [HD0.out] at cp; have cc0 : W1.cell? ⟨B1, 0, none⟩ = some (.int .i64 x.id) := (cell_of_row W1 B1 0 _ _ _ hb1).trans rfl; have cc1 : W1.cell? ⟨B1, 1, none⟩ = some (.string x.name) := (cell_of_row W1 B1 1 _ _ _ hb1).trans rfl; have cc2 : W1.cell? ⟨B1, 2, none⟩ = some (.int .i64 x.slot) := (cell_of_row W1 B1 2 _ _ _ hb1).trans rfl; have cc3 : W1.cell? ⟨B1, 3, none⟩ = some (.int .i64 x.power) := (cell_of_row W1 B1 3 _ _ _ hb1).trans rfl; have cc4 : W1.cell? ⟨B1, 4, none⟩ = some (.int .i64 x.price) := (cell_of_row W1 B1 4 _ _ _ hb1).trans rfl; clear hb1 hk1 hrv; simp only [Act.put, List.setIfInBounds_toArray, List.set_cons_succ, List.set_cons_zero])
        | (go_at_call 46; (refine (CI.out _).mono ?_); rintro e w2 ⟨rfl, k2⟩; have K2 := Lib.hid k2; have hb2 : w2.heap[B1]? = some (.cells (protoC x).toArray 78 (0, 0)) := (k2.block B1 (lt_of_block HB.out) (fun h => h)).trans HB.out; have H3 := Lib.hid (H2.out.keep0 k2); have p0 : w2.cell? ⟨d, 1, none⟩ = some (.slice a1 D.protos.length c1) := (cell_of_row w2 d 1 _ _ _ H3.out.v.blk).trans rfl; have q0 : w2.cell? ⟨B1, 0, none⟩ = some (.int .i64 x.id) := (cell_of_row w2 B1 0 _ _ _ hb2).trans rfl; have q1 : w2.cell? ⟨B1, 1, none⟩ = some (.string x.name) := (cell_of_row w2 B1 1 _ _ _ hb2).trans rfl; have q2 : w2.cell? ⟨B1, 2, none⟩ = some (.int .i64 x.slot) := (cell_of_row w2 B1 2 _ _ _ hb2).trans rfl; have q3 : w2.cell? ⟨B1, 3, none⟩ = some (.int .i64 x.power) := (cell_of_row w2 B1 3 _ _ _ hb2).trans rfl; have q4 : w2.cell? ⟨B1, 4, none⟩ = some (.int .i64 x.price) := (cell_of_row w2 B1 4 _ _ _ hb2).trans rfl; clear hb2; clear cc0 cc1 cc2 cc3 cc4; clear k2))
      have HKW : Hid (Keep (fun b => B b) w w2) := Lib.hid (((K1.out.mono (fun b _ hb => hb ▸ HP.out)).trans KA.out (fun _ h => h.elim)).trans K2.out (fun _ h => h.elim))
      obtain ⟨X9, hX9⟩ : ∃ X9, X9 = (w2.alloc (.cells (protoC x).toArray 78)).drew := ⟨_, rfl⟩
      have HKX : Hid (Keep (fun _ => False) w2 X9) := Lib.hid (by rw [hX9]; exact ((Keep.refl _ w2).alloc _).drew)
      have HDX := Lib.hid (H3.out.keep0 HKX.out)
      have HRX : Hid (Row X9 78 5 (.slice (some ⟨w2.heap.size, 0, none⟩) 1 1) 1 (protoC x)) := Lib.hid (by rw [hX9]; exact (Row.made (w := w2) (protoC x).toArray w2.heap.size 1 rfl (by simp [maxLen]) (by simp [protoC])).drew)
      have hX : (w2.alloc (.cells #[.int .i64 x.id, .string x.name, .int .i64 x.slot, .int .i64 x.power, .int .i64 x.price] 78)).drew = X9 := hX9.symm
      have HXE := Lib.hid hX
      have hds : d < w2.heap.size := lt_of_block H3.out.v.blk
      have hbs : B1 < w2.heap.size := Nat.lt_of_lt_of_le (lt_of_block HB.out) K2.out.size
      clear hX9 hX
      go_wp2
      go_region_law (rw [HXE.out]; refine step_append_rowJ rfl (.tmp 28) (.tmp 30) rfl Tryz.underlying44 hi0 hz0 hz1 hz2 hz3 (by simp [go_sem]) HDX.out.v.l2 (by simp [go_sem]) (HRX.out.src Tryz.underlying44 (by simp [protoC, Value.oneCell'])) (by unfold maxLen; omega) (by have := Nat.mul_le_mul_left (D.protos.length + 1) hz4; omega) ?_; intro v9 w9 r1 r2 r3 _; obtain ⟨a9, c9, rfl, _, _⟩ := r1.slice; have nd : ¬ (Value.slice a1 D.protos.length c1).ownBlock = some d := fun e => (by obtain ⟨cs, f, hb⟩ := HDX.out.v.l2.type e; exact ty_ne HDX.out.v.blk hb (by decide) rfl); have hb9 : w9.heap[d]? = some (.cells #[v1, .slice a1 D.protos.length c1, v3, v4, v5, v6] 50 (0, 0)) := (r2.block d (lt_of_block HDX.out.v.blk) nd).trans HDX.out.v.blk; have f9 : w9.frozen? ⟨d, 1, none⟩ = false := frozen_of_row _ _ _ _ _ hb9; have c9' : w9.cell? ⟨d, 1, none⟩ = some (.slice a1 D.protos.length c1) := (cell_of_row _ _ _ _ _ _ hb9).trans rfl; have R1' := Lib.hid r1; have R2 := Lib.hid r2; have R3 := Lib.hid r3; clear r1 r2 r3 hb9 nd)
      all_goals go_simp
      all_goals go_wp2
      all_goals go_ret
      all_goals
        refine .inl ⟨_, _, _, _, _, _, _, _, _, rfl, rfl, HDX.out.put2 ?_ R2.out (fun b hb => R3.out b hb |>.imp id (fun h => h.1)), ?_⟩
        · have := R1'.out
          unfold Rec
          rw [List.length_append, List.length_singleton, flat_append, flat_one]
          exact this
        · exact Keep.setCell (((HKW.out.trans HKX.out (fun _ h => h.elim)).trans R2.out (fun b hb => .inl (HDX.out.v.o2 b hb)))) _ _ (.inl HDX.out.v.base.1)
  · rw [if_neg (fun hh => hd hh.1)]
    have hpos := List.length_pos_iff.2 hd
    obtain ⟨m, hmm⟩ : ∃ m, m = (r.drop 5).length := ⟨_, rfl⟩
    rw [← hmm] at hpos
    have hg1 : decide (0 < (m : Int)) = true := by rw [decide_eq_true_eq]; omega
    have hg2 : decide (0 < m) = true := by rw [decide_eq_true_eq]; omega
    have HMM := Lib.hid hmm
    clear hd hmm
    go_enter Tryz.func44, Tryz.ntmps44
    go_wp2_with (first
      | (go_at_call 45; (refine HRD.out.mono ?_); rintro e w1 ⟨rfl, r1, k1⟩; have R1 := Lib.hid r1; have K1 := Lib.hid k1; have H1 := Lib.hid (HO.out.keepT k1 HOFF.out); clear r1 k1)
      | (refine wpList_var_any (C := (protoC x).toArray) HZ.out HI9.out HZS.out (by simp [protoC, Value.oneCell']) rfl rfl rfl (.tmp 9) (.tmp 12) rfl rfl rfl ?_; intro W1 B1 hb1 hk1; have HB := Lib.hid hb1; have KA := Lib.hid hk1; have H2 := Lib.hid (H1.out.keep0 hk1); obtain ⟨rv, hrv, hrs, _⟩ := (R1.out.keep0 hk1).ex; obtain ⟨_, ra, rc, rfl, hrc1, hrc2, _⟩ := hrs; unfold maxLen at hrc2; have cp : W1.cell? ⟨p, 0, none⟩ = some (.slice ra (r.drop 5).length rc) := (cell_of_row W1 p 0 _ _ _ hrv).trans rfl; rw [← HMM.out] at cp; have cc0 : W1.cell? ⟨B1, 0, none⟩ = some (.int .i64 x.id) := (cell_of_row W1 B1 0 _ _ _ hb1).trans rfl; have cc1 : W1.cell? ⟨B1, 1, none⟩ = some (.string x.name) := (cell_of_row W1 B1 1 _ _ _ hb1).trans rfl; have cc2 : W1.cell? ⟨B1, 2, none⟩ = some (.int .i64 x.slot) := (cell_of_row W1 B1 2 _ _ _ hb1).trans rfl; have cc3 : W1.cell? ⟨B1, 3, none⟩ = some (.int .i64 x.power) := (cell_of_row W1 B1 3 _ _ _ hb1).trans rfl; have cc4 : W1.cell? ⟨B1, 4, none⟩ = some (.int .i64 x.price) := (cell_of_row W1 B1 4 _ _ _ hb1).trans rfl; clear hb1 hk1 hrv; simp only [Act.put, List.setIfInBounds_toArray, List.set_cons_succ, List.set_cons_zero]))
    go_ret
    exact .inr ⟨rfl, rfl, (K1.out.mono (fun b _ hb => hb ▸ HP.out)).trans KA.out (fun _ h => h.elim)⟩

theorem zJMob : ∃ Z : Array Value, Hid (∀ w : World, (zeroValue 80).run Tryz.prog w = .ok (.agg Z) w) ∧ Hid (Z.size = 7) :=
  ⟨#[.int .i64 0, .string ⟨#[]⟩, .int .i64 0, .int .i64 0, .int .i64 0, .int .i64 0, .int .i64 0], Lib.hid (fun w => by kernel_rfl), Lib.hid rfl⟩
theorem Tryz.infoJMob : (Tryz.prog.info? 80).map (·.size) = some 7 := by kernel_rfl
theorem elJMob : ∃ (i : TypeInfo) (z : Value) (by_ : Nat), Tryz.prog.info? 80 = some i ∧ i.zero = some z ∧ i.size = 7 ∧ i.bytes = by_ ∧ z.cells.size = 7 ∧ by_ ≤ 100 := by
  have h : (Tryz.prog.info? 80).bind (fun i => i.zero.map fun z => (i.size, decide (i.bytes ≤ 100), z.cells.size)) = some (7, true, 7) := by kernel_rfl
  obtain ⟨i, h1, h2⟩ := Option.bind_eq_some_iff.1 h
  obtain ⟨z, h3, h4⟩ := Option.map_eq_some_iff.1 h2
  simp only [Prod.mk.injEq, decide_eq_true_eq] at h4
  exact ⟨i, z, _, h1, h3, h4.1, rfl, h4.2.2, h4.2.1⟩
set_option maxHeartbeats 8000000 in
theorem addMob_any {w : World} {B : Nat → Prop} {d : Nat} {D : DbM} {v1 v2 v3 v4 v5 v6 : Value} {rr : List (RecM × Value)} {ss : List (ShopM × Value)} (h : DbO B w d D v1 v2 v3 v4 v5 v6 rr ss) {p : Nat} {r : List ByteArray} (hr : RdAt w p r) (hs : ShortW r) (hT : T12B B w) (hp : B p) (hl : r.length ≤ 1000000) (hn : D.mobs.length ≤ 1000000) :
    Calls Tryz.prog 47 #[.pointer (some ⟨d, 2, none⟩), .pointer (some ⟨p, 0, none⟩), .func (.func 48) #[] #[], .func (.func 49) #[] #[]] w (AddA B w d D (if r.drop 7 = [] ∧ okMobP (mobP r) = true then some (.mob (mobP r)) else none)) := by
  have HO := Lib.hid h
  have HOFF := Lib.hid (off_reader hr)
  have HRD := Lib.hid (rdMob_any hr hs hT hp hl)
  have HNM : Hid ((mobP r).name.size ≤ 1000000) := Lib.hid (hs.at 1)
  obtain ⟨x, hx⟩ : ∃ x, x = mobP r := ⟨_, rfl⟩
  rw [← hx] at HRD HNM ⊢
  have HP := Lib.hid hp
  obtain ⟨Z, HZ, HZS⟩ := zJMob
  have HI9 := Lib.hid Tryz.infoJMob
  obtain ⟨i0, z0, by0, hi0, hz0, hz1, hz2, hz3, hz4⟩ := elJMob
  obtain ⟨a1, c1, rfl, hcr, hcr2⟩ := h.v.l3.slice
  unfold maxLen at hcr2
  have CI : Hid (∀ w9 : World, Calls Tryz.prog 49 #[.agg #[.int .i64 x.id, .string x.name, .int .i64 x.home, .int .i64 x.hp, .int .i64 x.power, .int .i64 x.xp, .int .i64 x.gold]] w9 fun e w' => e = .returned (.bool (okMobP x)) ∧ Keep (fun _ => False) w9 w') := Lib.hid (fun w9 => isMob_any (w := w9) x HNM.out)
  clear h hr hs hT hp hl hx
  by_cases hd : r.drop 7 = []
  · have hd0 : (r.drop 7).length = 0 := by rw [hd]; rfl
    have HD0 := Lib.hid hd0
    clear hd0
    cases hk : okMobP x with
    | false =>
      rw [if_neg (fun hh => by have := hh.2; simp at this)]
      rw [hk] at CI
      clear hk
      go_enter Tryz.func47, Tryz.ntmps47
      go_wp2_with (first
        | (go_at_call 48; (refine HRD.out.mono ?_); rintro e w1 ⟨rfl, r1, k1⟩; have R1 := Lib.hid r1; have K1 := Lib.hid k1; have H1 := Lib.hid (HO.out.keepT k1 HOFF.out); clear r1 k1)
        | (refine wpList_var_any (C := (mobpC x).toArray) HZ.out HI9.out HZS.out (by simp [mobpC, Value.oneCell']) rfl rfl rfl (.tmp 9) (.tmp 12) rfl rfl rfl ?_; intro W1 B1 hb1 hk1; have HB := Lib.hid hb1; have KA := Lib.hid hk1; have H2 := Lib.hid (H1.out.keep0 hk1); obtain ⟨rv, hrv, hrs, _⟩ := (R1.out.keep0 hk1).ex; obtain ⟨_, ra, rc, rfl, hrc1, hrc2, _⟩ := hrs; unfold maxLen at hrc2; have cp : W1.cell? ⟨p, 0, none⟩ = some (.slice ra (r.drop 7).length rc) := (cell_of_row W1 p 0 _ _ _ hrv).trans rfl; rw [HD0.out] at cp; have cc0 : W1.cell? ⟨B1, 0, none⟩ = some (.int .i64 x.id) := (cell_of_row W1 B1 0 _ _ _ hb1).trans rfl; have cc1 : W1.cell? ⟨B1, 1, none⟩ = some (.string x.name) := (cell_of_row W1 B1 1 _ _ _ hb1).trans rfl; have cc2 : W1.cell? ⟨B1, 2, none⟩ = some (.int .i64 x.home) := (cell_of_row W1 B1 2 _ _ _ hb1).trans rfl; have cc3 : W1.cell? ⟨B1, 3, none⟩ = some (.int .i64 x.hp) := (cell_of_row W1 B1 3 _ _ _ hb1).trans rfl; have cc4 : W1.cell? ⟨B1, 4, none⟩ = some (.int .i64 x.power) := (cell_of_row W1 B1 4 _ _ _ hb1).trans rfl; have cc5 : W1.cell? ⟨B1, 5, none⟩ = some (.int .i64 x.xp) := (cell_of_row W1 B1 5 _ _ _ hb1).trans rfl; have cc6 : W1.cell? ⟨B1, 6, none⟩ = some (.int .i64 x.gold) := (cell_of_row W1 B1 6 _ _ _ hb1).trans rfl; clear hb1 hk1 hrv; simp only [Act.put, List.setIfInBounds_toArray, List.set_cons_succ, List.set_cons_zero])
        | (go_at_call 49; (refine (CI.out _).mono ?_); rintro e w2 ⟨rfl, k2⟩; have K2 := Lib.hid k2; clear k2))
      go_ret
      exact .inr ⟨rfl, rfl, ((K1.out.mono (fun b _ hb => hb ▸ HP.out)).trans KA.out (fun _ h => h.elim)).trans K2.out (fun _ h => h.elim)⟩
    | true =>
      rw [if_pos ⟨hd, rfl⟩]
      rw [hk] at CI
      clear hk hd
      go_enter Tryz.func47, Tryz.ntmps47
      go_wp2_with (first
        | (go_at_call 48; (refine HRD.out.mono ?_); rintro e w1 ⟨rfl, r1, k1⟩; have R1 := Lib.hid r1; have K1 := Lib.hid k1; have H1 := Lib.hid (HO.out.keepT k1 HOFF.out); clear r1 k1)
        | (refine wpList_var_any (C := (mobpC x).toArray) HZ.out HI9.out HZS.out (by simp [mobpC, Value.oneCell']) rfl rfl rfl (.tmp 9) (.tmp 12) rfl rfl rfl ?_; intro W1 B1 hb1 hk1; have HB := Lib.hid hb1; have KA := Lib.hid hk1; have H2 := Lib.hid (H1.out.keep0 hk1); obtain ⟨rv, hrv, hrs, _⟩ := (R1.out.keep0 hk1).ex; obtain ⟨_, ra, rc, rfl, hrc1, hrc2, _⟩ := hrs; unfold maxLen at hrc2; have cp : W1.cell? ⟨p, 0, none⟩ = some (.slice ra (r.drop 7).length rc) := (cell_of_row W1 p 0 _ _ _ hrv).trans rfl; rw [HD0.out] at cp; have cc0 : W1.cell? ⟨B1, 0, none⟩ = some (.int .i64 x.id) := (cell_of_row W1 B1 0 _ _ _ hb1).trans rfl; have cc1 : W1.cell? ⟨B1, 1, none⟩ = some (.string x.name) := (cell_of_row W1 B1 1 _ _ _ hb1).trans rfl; have cc2 : W1.cell? ⟨B1, 2, none⟩ = some (.int .i64 x.home) := (cell_of_row W1 B1 2 _ _ _ hb1).trans rfl; have cc3 : W1.cell? ⟨B1, 3, none⟩ = some (.int .i64 x.hp) := (cell_of_row W1 B1 3 _ _ _ hb1).trans rfl; have cc4 : W1.cell? ⟨B1, 4, none⟩ = some (.int .i64 x.power) := (cell_of_row W1 B1 4 _ _ _ hb1).trans rfl; have cc5 : W1.cell? ⟨B1, 5, none⟩ = some (.int .i64 x.xp) := (cell_of_row W1 B1 5 _ _ _ hb1).trans rfl; have cc6 : W1.cell? ⟨B1, 6, none⟩ = some (.int .i64 x.gold) := (cell_of_row W1 B1 6 _ _ _ hb1).trans rfl; clear hb1 hk1 hrv; simp only [Act.put, List.setIfInBounds_toArray, List.set_cons_succ, List.set_cons_zero])
        | (go_at_call 49; (refine (CI.out _).mono ?_); rintro e w2 ⟨rfl, k2⟩; have K2 := Lib.hid k2; have hb2 : w2.heap[B1]? = some (.cells (mobpC x).toArray 80 (0, 0)) := (k2.block B1 (lt_of_block HB.out) (fun h => h)).trans HB.out; have H3 := Lib.hid (H2.out.keep0 k2); have p0 : w2.cell? ⟨d, 2, none⟩ = some (.slice a1 D.mobs.length c1) := (cell_of_row w2 d 2 _ _ _ H3.out.v.blk).trans rfl; have q0 : w2.cell? ⟨B1, 0, none⟩ = some (.int .i64 x.id) := (cell_of_row w2 B1 0 _ _ _ hb2).trans rfl; have q1 : w2.cell? ⟨B1, 1, none⟩ = some (.string x.name) := (cell_of_row w2 B1 1 _ _ _ hb2).trans rfl; have q2 : w2.cell? ⟨B1, 2, none⟩ = some (.int .i64 x.home) := (cell_of_row w2 B1 2 _ _ _ hb2).trans rfl; have q3 : w2.cell? ⟨B1, 3, none⟩ = some (.int .i64 x.hp) := (cell_of_row w2 B1 3 _ _ _ hb2).trans rfl; have q4 : w2.cell? ⟨B1, 4, none⟩ = some (.int .i64 x.power) := (cell_of_row w2 B1 4 _ _ _ hb2).trans rfl; have q5 : w2.cell? ⟨B1, 5, none⟩ = some (.int .i64 x.xp) := (cell_of_row w2 B1 5 _ _ _ hb2).trans rfl; have q6 : w2.cell? ⟨B1, 6, none⟩ = some (.int .i64 x.gold) := (cell_of_row w2 B1 6 _ _ _ hb2).trans rfl; clear hb2; clear cc0 cc1 cc2 cc3 cc4 cc5 cc6; clear k2))
      have HKW : Hid (Keep (fun b => B b) w w2) := Lib.hid (((K1.out.mono (fun b _ hb => hb ▸ HP.out)).trans KA.out (fun _ h => h.elim)).trans K2.out (fun _ h => h.elim))
      obtain ⟨X9, hX9⟩ : ∃ X9, X9 = (w2.alloc (.cells (mobpC x).toArray 80)).drew := ⟨_, rfl⟩
      have HKX : Hid (Keep (fun _ => False) w2 X9) := Lib.hid (by rw [hX9]; exact ((Keep.refl _ w2).alloc _).drew)
      have HDX := Lib.hid (H3.out.keep0 HKX.out)
      have HRX : Hid (Row X9 80 7 (.slice (some ⟨w2.heap.size, 0, none⟩) 1 1) 1 (mobpC x)) := Lib.hid (by rw [hX9]; exact (Row.made (w := w2) (mobpC x).toArray w2.heap.size 1 rfl (by simp [maxLen]) (by simp [mobpC])).drew)
      have hX : (w2.alloc (.cells #[.int .i64 x.id, .string x.name, .int .i64 x.home, .int .i64 x.hp, .int .i64 x.power, .int .i64 x.xp, .int .i64 x.gold] 80)).drew = X9 := hX9.symm
      have HXE := Lib.hid hX
      have hds : d < w2.heap.size := lt_of_block H3.out.v.blk
      have hbs : B1 < w2.heap.size := Nat.lt_of_lt_of_le (lt_of_block HB.out) K2.out.size
      clear hX9 hX
      go_wp2
      go_region_law (rw [HXE.out]; refine step_append_rowJ rfl (.tmp 28) (.tmp 30) rfl Tryz.underlying45 hi0 hz0 hz1 hz2 hz3 (by simp [go_sem]) HDX.out.v.l3 (by simp [go_sem]) (HRX.out.src Tryz.underlying45 (by simp [mobpC, Value.oneCell'])) (by unfold maxLen; omega) (by have := Nat.mul_le_mul_left (D.mobs.length + 1) hz4; omega) ?_; intro v9 w9 r1 r2 r3 _; obtain ⟨a9, c9, rfl, _, _⟩ := r1.slice; have nd : ¬ (Value.slice a1 D.mobs.length c1).ownBlock = some d := fun e => (by obtain ⟨cs, f, hb⟩ := HDX.out.v.l3.type e; exact ty_ne HDX.out.v.blk hb (by decide) rfl); have hb9 : w9.heap[d]? = some (.cells #[v1, v2, .slice a1 D.mobs.length c1, v4, v5, v6] 50 (0, 0)) := (r2.block d (lt_of_block HDX.out.v.blk) nd).trans HDX.out.v.blk; have f9 : w9.frozen? ⟨d, 2, none⟩ = false := frozen_of_row _ _ _ _ _ hb9; have c9' : w9.cell? ⟨d, 2, none⟩ = some (.slice a1 D.mobs.length c1) := (cell_of_row _ _ _ _ _ _ hb9).trans rfl; have R1' := Lib.hid r1; have R2 := Lib.hid r2; have R3 := Lib.hid r3; clear r1 r2 r3 hb9 nd)
      all_goals go_simp
      all_goals go_wp2
      all_goals go_ret
      all_goals
        refine .inl ⟨_, _, _, _, _, _, _, _, _, rfl, rfl, HDX.out.put3 ?_ R2.out (fun b hb => R3.out b hb |>.imp id (fun h => h.1)), ?_⟩
        · have := R1'.out
          unfold Rec
          rw [List.length_append, List.length_singleton, flat_append, flat_one]
          exact this
        · exact Keep.setCell (((HKW.out.trans HKX.out (fun _ h => h.elim)).trans R2.out (fun b hb => .inl (HDX.out.v.o3 b hb)))) _ _ (.inl HDX.out.v.base.1)
  · rw [if_neg (fun hh => hd hh.1)]
    have hpos := List.length_pos_iff.2 hd
    obtain ⟨m, hmm⟩ : ∃ m, m = (r.drop 7).length := ⟨_, rfl⟩
    rw [← hmm] at hpos
    have hg1 : decide (0 < (m : Int)) = true := by rw [decide_eq_true_eq]; omega
    have hg2 : decide (0 < m) = true := by rw [decide_eq_true_eq]; omega
    have HMM := Lib.hid hmm
    clear hd hmm
    go_enter Tryz.func47, Tryz.ntmps47
    go_wp2_with (first
      | (go_at_call 48; (refine HRD.out.mono ?_); rintro e w1 ⟨rfl, r1, k1⟩; have R1 := Lib.hid r1; have K1 := Lib.hid k1; have H1 := Lib.hid (HO.out.keepT k1 HOFF.out); clear r1 k1)
      | (refine wpList_var_any (C := (mobpC x).toArray) HZ.out HI9.out HZS.out (by simp [mobpC, Value.oneCell']) rfl rfl rfl (.tmp 9) (.tmp 12) rfl rfl rfl ?_; intro W1 B1 hb1 hk1; have HB := Lib.hid hb1; have KA := Lib.hid hk1; have H2 := Lib.hid (H1.out.keep0 hk1); obtain ⟨rv, hrv, hrs, _⟩ := (R1.out.keep0 hk1).ex; obtain ⟨_, ra, rc, rfl, hrc1, hrc2, _⟩ := hrs; unfold maxLen at hrc2; have cp : W1.cell? ⟨p, 0, none⟩ = some (.slice ra (r.drop 7).length rc) := (cell_of_row W1 p 0 _ _ _ hrv).trans rfl; rw [← HMM.out] at cp; have cc0 : W1.cell? ⟨B1, 0, none⟩ = some (.int .i64 x.id) := (cell_of_row W1 B1 0 _ _ _ hb1).trans rfl; have cc1 : W1.cell? ⟨B1, 1, none⟩ = some (.string x.name) := (cell_of_row W1 B1 1 _ _ _ hb1).trans rfl; have cc2 : W1.cell? ⟨B1, 2, none⟩ = some (.int .i64 x.home) := (cell_of_row W1 B1 2 _ _ _ hb1).trans rfl; have cc3 : W1.cell? ⟨B1, 3, none⟩ = some (.int .i64 x.hp) := (cell_of_row W1 B1 3 _ _ _ hb1).trans rfl; have cc4 : W1.cell? ⟨B1, 4, none⟩ = some (.int .i64 x.power) := (cell_of_row W1 B1 4 _ _ _ hb1).trans rfl; have cc5 : W1.cell? ⟨B1, 5, none⟩ = some (.int .i64 x.xp) := (cell_of_row W1 B1 5 _ _ _ hb1).trans rfl; have cc6 : W1.cell? ⟨B1, 6, none⟩ = some (.int .i64 x.gold) := (cell_of_row W1 B1 6 _ _ _ hb1).trans rfl; clear hb1 hk1 hrv; simp only [Act.put, List.setIfInBounds_toArray, List.set_cons_succ, List.set_cons_zero]))
    go_ret
    exact .inr ⟨rfl, rfl, (K1.out.mono (fun b _ hb => hb ▸ HP.out)).trans KA.out (fun _ h => h.elim)⟩

theorem zJRec : ∃ Z : Array Value, Hid (∀ w : World, (zeroValue 83).run Tryz.prog w = .ok (.agg Z) w) ∧ Hid (Z.size = 2) :=
  ⟨#[.int .i64 0, .slice none 0 0], Lib.hid (fun w => by kernel_rfl), Lib.hid rfl⟩
theorem Tryz.infoJRec : (Tryz.prog.info? 83).map (·.size) = some 2 := by kernel_rfl
theorem elJRec : ∃ (i : TypeInfo) (z : Value) (by_ : Nat), Tryz.prog.info? 83 = some i ∧ i.zero = some z ∧ i.size = 2 ∧ i.bytes = by_ ∧ z.cells.size = 2 ∧ by_ ≤ 100 := by
  have h : (Tryz.prog.info? 83).bind (fun i => i.zero.map fun z => (i.size, decide (i.bytes ≤ 100), z.cells.size)) = some (2, true, 2) := by kernel_rfl
  obtain ⟨i, h1, h2⟩ := Option.bind_eq_some_iff.1 h
  obtain ⟨z, h3, h4⟩ := Option.map_eq_some_iff.1 h2
  simp only [Prod.mk.injEq, decide_eq_true_eq] at h4
  exact ⟨i, z, _, h1, h3, h4.1, rfl, h4.2.2, h4.2.1⟩
set_option maxHeartbeats 8000000 in
theorem addRec_any {w : World} {B : Nat → Prop} {d : Nat} {D : DbM} {v1 v2 v3 v4 v5 v6 : Value} {rr : List (RecM × Value)} {ss : List (ShopM × Value)} (h : DbO B w d D v1 v2 v3 v4 v5 v6 rr ss) {p : Nat} {r : List ByteArray} (hr : RdAt w p r) (hs : ShortW r) (hT : T12B B w) (hp : B p) (hl : r.length ≤ 1000000) (hn : D.recs.length ≤ 1000000) :
    Calls Tryz.prog 50 #[.pointer (some ⟨d, 3, none⟩), .pointer (some ⟨p, 0, none⟩), .func (.func 51) #[] #[], .func (.func 52) #[] #[]] w (AddA B w d D (if okRecU (recP r) = true then some (.recipe (recP r)) else none)) := by
  have HO := Lib.hid h
  have HOFF := Lib.hid (off_reader hr)
  have HRD := Lib.hid (rdRec_any hr hs hT hp hl)
  obtain ⟨x, hx⟩ : ∃ x, x = recP r := ⟨_, rfl⟩
  rw [← hx] at HRD ⊢
  have HP := Lib.hid hp
  obtain ⟨Z, HZ, HZS⟩ := zJRec
  have HI9 := Lib.hid Tryz.infoJRec
  obtain ⟨i0, z0, by0, hi0, hz0, hz1, hz2, hz3, hz4⟩ := elJRec
  have hn2 : rr.length ≤ 1000000 := by rw [← h.v.fr, List.length_map] at hn; exact hn
  obtain ⟨a1, c1, rfl, hcr, hcr2⟩ := h.v.l4.slice
  unfold maxLen at hcr2
  have CI : Hid (∀ (w9 : World) va vc, Seen w9 1 (.slice va x.needs.length vc) x.needs.length (icells x.needs) → Calls Tryz.prog 52 #[.agg #[.int .i64 x.out, .slice va x.needs.length vc]] w9 fun e w' => e = .returned (.bool (okRecU x)) ∧ Keep (fun _ => False) w9 w') := Lib.hid (fun w9 va vc hv => isRecipe_any (w := w9) x hv)
  clear h hr hs hT hp hl hx
  cases hk : okRecU x with
  | false =>
    rw [if_neg (by simp)]
    rw [hk] at CI
    clear hk
    go_enter Tryz.func50, Tryz.ntmps50
    go_wp2_with (first
      | (go_at_call 51; (refine HRD.out.mono ?_); rintro e w1 ⟨v, rfl, rw1, ow1, r1, k1⟩; obtain ⟨va, vc, rfl, hvc1, hvc2⟩ := rw1.slice; unfold maxLen at hvc2; have RW := Lib.hid rw1; have OW := Lib.hid ow1; have R1 := Lib.hid r1; have K1 := Lib.hid k1; have H1 := Lib.hid (HO.out.keepT k1 HOFF.out); clear r1 k1 rw1 ow1)
      | (refine wpList_var_any (C := (recC (x, .slice va x.needs.length vc)).toArray) HZ.out HI9.out HZS.out (by simp [recC, Value.oneCell']) rfl rfl rfl (.tmp 9) (.tmp 12) rfl rfl rfl ?_; intro W1 B1 hb1 hk1; have HB := Lib.hid hb1; have KA := Lib.hid hk1; have H2 := Lib.hid (H1.out.keep0 hk1); obtain ⟨rv, hrv, hrs, _⟩ := (R1.out.keep0 hk1).ex; obtain ⟨_, ra, rc, rfl, hrc1, hrc2, _⟩ := hrs; unfold maxLen at hrc2; have cp : W1.cell? ⟨p, 0, none⟩ = some (.slice ra ([] : List ByteArray).length rc) := (cell_of_row W1 p 0 _ _ _ hrv).trans rfl; simp only [List.length_nil] at cp; have cc0 : W1.cell? ⟨B1, 0, none⟩ = some (.int .i64 x.out) := (cell_of_row W1 B1 0 _ _ _ hb1).trans rfl; have cc1 : W1.cell? ⟨B1, 1, none⟩ = some (.slice va x.needs.length vc) := (cell_of_row W1 B1 1 _ _ _ hb1).trans rfl; clear hb1 hk1 hrv; simp only [Act.put, List.setIfInBounds_toArray, List.set_cons_succ, List.set_cons_zero])
      | (go_at_call 52; (refine (CI.out _ va vc ((RW.out.keep KA.out (fun _ _ h => h)).seen)).mono ?_); rintro e w2 ⟨rfl, k2⟩; have K2 := Lib.hid k2; clear k2))
    go_ret
    exact .inr ⟨rfl, rfl, ((K1.out.mono (fun b _ hb => hb ▸ HP.out)).trans KA.out (fun _ h => h.elim)).trans K2.out (fun _ h => h.elim)⟩
  | true =>
    rw [if_pos rfl]
    rw [hk] at CI
    clear hk
    go_enter Tryz.func50, Tryz.ntmps50
    go_wp2_with (first
      | (go_at_call 51; (refine HRD.out.mono ?_); rintro e w1 ⟨v, rfl, rw1, ow1, r1, k1⟩; obtain ⟨va, vc, rfl, hvc1, hvc2⟩ := rw1.slice; unfold maxLen at hvc2; have RW := Lib.hid rw1; have OW := Lib.hid ow1; have R1 := Lib.hid r1; have K1 := Lib.hid k1; have H1 := Lib.hid (HO.out.keepT k1 HOFF.out); clear r1 k1 rw1 ow1)
      | (refine wpList_var_any (C := (recC (x, .slice va x.needs.length vc)).toArray) HZ.out HI9.out HZS.out (by simp [recC, Value.oneCell']) rfl rfl rfl (.tmp 9) (.tmp 12) rfl rfl rfl ?_; intro W1 B1 hb1 hk1; have HB := Lib.hid hb1; have KA := Lib.hid hk1; have H2 := Lib.hid (H1.out.keep0 hk1); obtain ⟨rv, hrv, hrs, _⟩ := (R1.out.keep0 hk1).ex; obtain ⟨_, ra, rc, rfl, hrc1, hrc2, _⟩ := hrs; unfold maxLen at hrc2; have cp : W1.cell? ⟨p, 0, none⟩ = some (.slice ra ([] : List ByteArray).length rc) := (cell_of_row W1 p 0 _ _ _ hrv).trans rfl; simp only [List.length_nil] at cp; have cc0 : W1.cell? ⟨B1, 0, none⟩ = some (.int .i64 x.out) := (cell_of_row W1 B1 0 _ _ _ hb1).trans rfl; have cc1 : W1.cell? ⟨B1, 1, none⟩ = some (.slice va x.needs.length vc) := (cell_of_row W1 B1 1 _ _ _ hb1).trans rfl; clear hb1 hk1 hrv; simp only [Act.put, List.setIfInBounds_toArray, List.set_cons_succ, List.set_cons_zero])
      | (go_at_call 52; (refine (CI.out _ va vc ((RW.out.keep KA.out (fun _ _ h => h)).seen)).mono ?_); rintro e w2 ⟨rfl, k2⟩; have K2 := Lib.hid k2; have hb2 : w2.heap[B1]? = some (.cells (recC (x, .slice va x.needs.length vc)).toArray 83 (0, 0)) := (k2.block B1 (lt_of_block HB.out) (fun h => h)).trans HB.out; have H3 := Lib.hid (H2.out.keep0 k2); have p0 : w2.cell? ⟨d, 3, none⟩ = some (.slice a1 rr.length c1) := (cell_of_row w2 d 3 _ _ _ H3.out.v.blk).trans rfl; have q0 : w2.cell? ⟨B1, 0, none⟩ = some (.int .i64 x.out) := (cell_of_row w2 B1 0 _ _ _ hb2).trans rfl; have q1 : w2.cell? ⟨B1, 1, none⟩ = some (.slice va x.needs.length vc) := (cell_of_row w2 B1 1 _ _ _ hb2).trans rfl; clear hb2; clear cc0 cc1; clear k2))
    have HKW : Hid (Keep (fun b => B b) w w2) := Lib.hid (((K1.out.mono (fun b _ hb => hb ▸ HP.out)).trans KA.out (fun _ h => h.elim)).trans K2.out (fun _ h => h.elim))
    have RW2 := Lib.hid ((RW.out.keep KA.out (fun _ _ h => h)).keep K2.out (fun _ _ h => h))
    have HAP : Hid (∀ y ∈ rr.map Prod.snd ++ ss.map Prod.snd, ApartV (.slice va x.needs.length vc) y) := Lib.hid (fun y hy k hk hk2 => by
      have h1 := OW.out k hk
      have h2 : k < w.heap.size := by
        rcases List.mem_append.1 hy with hy | hy
        · obtain ⟨z, hz, rfl⟩ := List.mem_map.1 hy
          exact (HO.out.wr z hz).lt hk2
        · obtain ⟨z, hz, rfl⟩ := List.mem_map.1 hy
          exact (HO.out.ws z hz).lt hk2
      omega)
    have HQ : Hid (∀ b, (Value.slice va x.needs.length vc).ownBlock = some b → B b) := Lib.hid (fun b hb => by
      have h1 := OW.out b hb
      exact HO.out.v.base.2 b (by omega))
    obtain ⟨X9, hX9⟩ : ∃ X9, X9 = (w2.alloc (.cells (recC (x, .slice va x.needs.length vc)).toArray 83)).drew := ⟨_, rfl⟩
    have HKX : Hid (Keep (fun _ => False) w2 X9) := Lib.hid (by rw [hX9]; exact ((Keep.refl _ w2).alloc _).drew)
    have HDX := Lib.hid (H3.out.keep0 HKX.out)
    have HRX : Hid (Row X9 83 2 (.slice (some ⟨w2.heap.size, 0, none⟩) 1 1) 1 (recC (x, .slice va x.needs.length vc))) := Lib.hid (by rw [hX9]; exact (Row.made (w := w2) (recC (x, .slice va x.needs.length vc)).toArray w2.heap.size 1 rfl (by simp [maxLen]) (by simp [recC])).drew)
    have hX : (w2.alloc (.cells #[.int .i64 x.out, .slice va x.needs.length vc] 83)).drew = X9 := hX9.symm
    have HXE := Lib.hid hX
    have hds : d < w2.heap.size := lt_of_block H3.out.v.blk
    have hbs : B1 < w2.heap.size := Nat.lt_of_lt_of_le (lt_of_block HB.out) K2.out.size
    clear hX9 hX
    go_wp2
    go_region_law (rw [HXE.out]; refine step_append_rowJ rfl (.tmp 28) (.tmp 30) rfl Tryz.underlying46 hi0 hz0 hz1 hz2 hz3 (by simp [go_sem]) HDX.out.v.l4 (by simp [go_sem]) (HRX.out.src Tryz.underlying46 (by simp [recC, Value.oneCell'])) (by unfold maxLen; omega) (by have := Nat.mul_le_mul_left (rr.length + 1) hz4; omega) ?_; intro v9 w9 r1 r2 r3 _; obtain ⟨a9, c9, rfl, _, _⟩ := r1.slice; have nd : ¬ (Value.slice a1 rr.length c1).ownBlock = some d := fun e => (by obtain ⟨cs, f, hb⟩ := HDX.out.v.l4.type e; exact ty_ne HDX.out.v.blk hb (by decide) rfl); have hb9 : w9.heap[d]? = some (.cells #[v1, v2, v3, .slice a1 rr.length c1, v5, v6] 50 (0, 0)) := (r2.block d (lt_of_block HDX.out.v.blk) nd).trans HDX.out.v.blk; have f9 : w9.frozen? ⟨d, 3, none⟩ = false := frozen_of_row _ _ _ _ _ hb9; have c9' : w9.cell? ⟨d, 3, none⟩ = some (.slice a1 rr.length c1) := (cell_of_row _ _ _ _ _ _ hb9).trans rfl; have R1' := Lib.hid r1; have R2 := Lib.hid r2; have R3 := Lib.hid r3; clear r1 r2 r3 hb9 nd)
    all_goals go_simp
    all_goals go_wp2
    all_goals go_ret
    all_goals
      refine .inl ⟨_, _, _, _, _, _, _, _, _, rfl, rfl, HDX.out.put4 ?_ R2.out (fun b hb => R3.out b hb |>.imp id (fun h => h.1)) (RW2.out.keep HKX.out (fun _ _ h => h)) HQ.out HAP.out, ?_⟩
      · have := R1'.out
        unfold Rec
        rw [List.length_append, List.length_singleton, flat_append, flat_one]
        exact this
      · exact Keep.setCell (((HKW.out.trans HKX.out (fun _ h => h.elim)).trans R2.out (fun b hb => .inl (HDX.out.v.o4 b hb)))) _ _ (.inl HDX.out.v.base.1)

theorem zJQuest : ∃ Z : Array Value, Hid (∀ w : World, (zeroValue 86).run Tryz.prog w = .ok (.agg Z) w) ∧ Hid (Z.size = 5) :=
  ⟨#[.int .i64 0, .int .i64 0, .int .i64 0, .int .i64 0, .int .i64 0], Lib.hid (fun w => by kernel_rfl), Lib.hid rfl⟩
theorem Tryz.infoJQuest : (Tryz.prog.info? 86).map (·.size) = some 5 := by kernel_rfl
theorem elJQuest : ∃ (i : TypeInfo) (z : Value) (by_ : Nat), Tryz.prog.info? 86 = some i ∧ i.zero = some z ∧ i.size = 5 ∧ i.bytes = by_ ∧ z.cells.size = 5 ∧ by_ ≤ 100 := by
  have h : (Tryz.prog.info? 86).bind (fun i => i.zero.map fun z => (i.size, decide (i.bytes ≤ 100), z.cells.size)) = some (5, true, 5) := by kernel_rfl
  obtain ⟨i, h1, h2⟩ := Option.bind_eq_some_iff.1 h
  obtain ⟨z, h3, h4⟩ := Option.map_eq_some_iff.1 h2
  simp only [Prod.mk.injEq, decide_eq_true_eq] at h4
  exact ⟨i, z, _, h1, h3, h4.1, rfl, h4.2.2, h4.2.1⟩
set_option maxHeartbeats 8000000 in
theorem addQuest_any {w : World} {B : Nat → Prop} {d : Nat} {D : DbM} {v1 v2 v3 v4 v5 v6 : Value} {rr : List (RecM × Value)} {ss : List (ShopM × Value)} (h : DbO B w d D v1 v2 v3 v4 v5 v6 rr ss) {p : Nat} {r : List ByteArray} (hr : RdAt w p r) (hs : ShortW r) (hT : T12B B w) (hp : B p) (hl : r.length ≤ 1000000) (hn : D.quests.length ≤ 1000000) :
    Calls Tryz.prog 53 #[.pointer (some ⟨d, 4, none⟩), .pointer (some ⟨p, 0, none⟩), .func (.func 54) #[] #[], .func (.func 55) #[] #[]] w (AddA B w d D (if r.drop 5 = [] ∧ okQuest (questP r) = true then some (.quest (questP r)) else none)) := by
  have HO := Lib.hid h
  have HOFF := Lib.hid (off_reader hr)
  have HRD := Lib.hid (rdQuest_any hr hs hT hp hl)
  obtain ⟨x, hx⟩ : ∃ x, x = questP r := ⟨_, rfl⟩
  rw [← hx] at HRD ⊢
  have HP := Lib.hid hp
  obtain ⟨Z, HZ, HZS⟩ := zJQuest
  have HI9 := Lib.hid Tryz.infoJQuest
  obtain ⟨i0, z0, by0, hi0, hz0, hz1, hz2, hz3, hz4⟩ := elJQuest
  obtain ⟨a1, c1, rfl, hcr, hcr2⟩ := h.v.l5.slice
  unfold maxLen at hcr2
  have CI : Hid (∀ w9 : World, Calls Tryz.prog 55 #[.agg #[.int .i64 x.id, .int .i64 x.item, .int .i64 x.count, .int .i64 x.gold, .int .i64 x.reward]] w9 fun e w' => e = .returned (.bool (okQuest x)) ∧ Keep (fun _ => False) w9 w') := Lib.hid (fun w9 => isQuest_any (w := w9) x)
  clear h hr hs hT hp hl hx
  by_cases hd : r.drop 5 = []
  · have hd0 : (r.drop 5).length = 0 := by rw [hd]; rfl
    have HD0 := Lib.hid hd0
    clear hd0
    cases hk : okQuest x with
    | false =>
      rw [if_neg (fun hh => by have := hh.2; simp at this)]
      rw [hk] at CI
      clear hk
      go_enter Tryz.func53, Tryz.ntmps53
      go_wp2_with (first
        | (go_at_call 54; (refine HRD.out.mono ?_); rintro e w1 ⟨rfl, r1, k1⟩; have R1 := Lib.hid r1; have K1 := Lib.hid k1; have H1 := Lib.hid (HO.out.keepT k1 HOFF.out); clear r1 k1)
        | (refine wpList_var_any (C := (questC x).toArray) HZ.out HI9.out HZS.out (by simp [questC, Value.oneCell']) rfl rfl rfl (.tmp 9) (.tmp 12) rfl rfl rfl ?_; intro W1 B1 hb1 hk1; have HB := Lib.hid hb1; have KA := Lib.hid hk1; have H2 := Lib.hid (H1.out.keep0 hk1); obtain ⟨rv, hrv, hrs, _⟩ := (R1.out.keep0 hk1).ex; obtain ⟨_, ra, rc, rfl, hrc1, hrc2, _⟩ := hrs; unfold maxLen at hrc2; have cp : W1.cell? ⟨p, 0, none⟩ = some (.slice ra (r.drop 5).length rc) := (cell_of_row W1 p 0 _ _ _ hrv).trans rfl; rw [HD0.out] at cp; have cc0 : W1.cell? ⟨B1, 0, none⟩ = some (.int .i64 x.id) := (cell_of_row W1 B1 0 _ _ _ hb1).trans rfl; have cc1 : W1.cell? ⟨B1, 1, none⟩ = some (.int .i64 x.item) := (cell_of_row W1 B1 1 _ _ _ hb1).trans rfl; have cc2 : W1.cell? ⟨B1, 2, none⟩ = some (.int .i64 x.count) := (cell_of_row W1 B1 2 _ _ _ hb1).trans rfl; have cc3 : W1.cell? ⟨B1, 3, none⟩ = some (.int .i64 x.gold) := (cell_of_row W1 B1 3 _ _ _ hb1).trans rfl; have cc4 : W1.cell? ⟨B1, 4, none⟩ = some (.int .i64 x.reward) := (cell_of_row W1 B1 4 _ _ _ hb1).trans rfl; clear hb1 hk1 hrv; simp only [Act.put, List.setIfInBounds_toArray, List.set_cons_succ, List.set_cons_zero])
        | (go_at_call 55; (refine (CI.out _).mono ?_); rintro e w2 ⟨rfl, k2⟩; have K2 := Lib.hid k2; clear k2))
      go_ret
      exact .inr ⟨rfl, rfl, ((K1.out.mono (fun b _ hb => hb ▸ HP.out)).trans KA.out (fun _ h => h.elim)).trans K2.out (fun _ h => h.elim)⟩
    | true =>
      rw [if_pos ⟨hd, rfl⟩]
      rw [hk] at CI
      clear hk hd
      go_enter Tryz.func53, Tryz.ntmps53
      go_wp2_with (first
        | (go_at_call 54; (refine HRD.out.mono ?_); rintro e w1 ⟨rfl, r1, k1⟩; have R1 := Lib.hid r1; have K1 := Lib.hid k1; have H1 := Lib.hid (HO.out.keepT k1 HOFF.out); clear r1 k1)
        | (refine wpList_var_any (C := (questC x).toArray) HZ.out HI9.out HZS.out (by simp [questC, Value.oneCell']) rfl rfl rfl (.tmp 9) (.tmp 12) rfl rfl rfl ?_; intro W1 B1 hb1 hk1; have HB := Lib.hid hb1; have KA := Lib.hid hk1; have H2 := Lib.hid (H1.out.keep0 hk1); obtain ⟨rv, hrv, hrs, _⟩ := (R1.out.keep0 hk1).ex; obtain ⟨_, ra, rc, rfl, hrc1, hrc2, _⟩ := hrs; unfold maxLen at hrc2; have cp : W1.cell? ⟨p, 0, none⟩ = some (.slice ra (r.drop 5).length rc) := (cell_of_row W1 p 0 _ _ _ hrv).trans rfl; rw [HD0.out] at cp; have cc0 : W1.cell? ⟨B1, 0, none⟩ = some (.int .i64 x.id) := (cell_of_row W1 B1 0 _ _ _ hb1).trans rfl; have cc1 : W1.cell? ⟨B1, 1, none⟩ = some (.int .i64 x.item) := (cell_of_row W1 B1 1 _ _ _ hb1).trans rfl; have cc2 : W1.cell? ⟨B1, 2, none⟩ = some (.int .i64 x.count) := (cell_of_row W1 B1 2 _ _ _ hb1).trans rfl; have cc3 : W1.cell? ⟨B1, 3, none⟩ = some (.int .i64 x.gold) := (cell_of_row W1 B1 3 _ _ _ hb1).trans rfl; have cc4 : W1.cell? ⟨B1, 4, none⟩ = some (.int .i64 x.reward) := (cell_of_row W1 B1 4 _ _ _ hb1).trans rfl; clear hb1 hk1 hrv; simp only [Act.put, List.setIfInBounds_toArray, List.set_cons_succ, List.set_cons_zero])
        | (go_at_call 55; (refine (CI.out _).mono ?_); rintro e w2 ⟨rfl, k2⟩; have K2 := Lib.hid k2; have hb2 : w2.heap[B1]? = some (.cells (questC x).toArray 86 (0, 0)) := (k2.block B1 (lt_of_block HB.out) (fun h => h)).trans HB.out; have H3 := Lib.hid (H2.out.keep0 k2); have p0 : w2.cell? ⟨d, 4, none⟩ = some (.slice a1 D.quests.length c1) := (cell_of_row w2 d 4 _ _ _ H3.out.v.blk).trans rfl; have q0 : w2.cell? ⟨B1, 0, none⟩ = some (.int .i64 x.id) := (cell_of_row w2 B1 0 _ _ _ hb2).trans rfl; have q1 : w2.cell? ⟨B1, 1, none⟩ = some (.int .i64 x.item) := (cell_of_row w2 B1 1 _ _ _ hb2).trans rfl; have q2 : w2.cell? ⟨B1, 2, none⟩ = some (.int .i64 x.count) := (cell_of_row w2 B1 2 _ _ _ hb2).trans rfl; have q3 : w2.cell? ⟨B1, 3, none⟩ = some (.int .i64 x.gold) := (cell_of_row w2 B1 3 _ _ _ hb2).trans rfl; have q4 : w2.cell? ⟨B1, 4, none⟩ = some (.int .i64 x.reward) := (cell_of_row w2 B1 4 _ _ _ hb2).trans rfl; clear hb2; clear cc0 cc1 cc2 cc3 cc4; clear k2))
      have HKW : Hid (Keep (fun b => B b) w w2) := Lib.hid (((K1.out.mono (fun b _ hb => hb ▸ HP.out)).trans KA.out (fun _ h => h.elim)).trans K2.out (fun _ h => h.elim))
      obtain ⟨X9, hX9⟩ : ∃ X9, X9 = (w2.alloc (.cells (questC x).toArray 86)).drew := ⟨_, rfl⟩
      have HKX : Hid (Keep (fun _ => False) w2 X9) := Lib.hid (by rw [hX9]; exact ((Keep.refl _ w2).alloc _).drew)
      have HDX := Lib.hid (H3.out.keep0 HKX.out)
      have HRX : Hid (Row X9 86 5 (.slice (some ⟨w2.heap.size, 0, none⟩) 1 1) 1 (questC x)) := Lib.hid (by rw [hX9]; exact (Row.made (w := w2) (questC x).toArray w2.heap.size 1 rfl (by simp [maxLen]) (by simp [questC])).drew)
      have hX : (w2.alloc (.cells #[.int .i64 x.id, .int .i64 x.item, .int .i64 x.count, .int .i64 x.gold, .int .i64 x.reward] 86)).drew = X9 := hX9.symm
      have HXE := Lib.hid hX
      have hds : d < w2.heap.size := lt_of_block H3.out.v.blk
      have hbs : B1 < w2.heap.size := Nat.lt_of_lt_of_le (lt_of_block HB.out) K2.out.size
      clear hX9 hX
      go_wp2
      go_region_law (rw [HXE.out]; refine step_append_rowJ rfl (.tmp 28) (.tmp 30) rfl Tryz.underlying47 hi0 hz0 hz1 hz2 hz3 (by simp [go_sem]) HDX.out.v.l5 (by simp [go_sem]) (HRX.out.src Tryz.underlying47 (by simp [questC, Value.oneCell'])) (by unfold maxLen; omega) (by have := Nat.mul_le_mul_left (D.quests.length + 1) hz4; omega) ?_; intro v9 w9 r1 r2 r3 _; obtain ⟨a9, c9, rfl, _, _⟩ := r1.slice; have nd : ¬ (Value.slice a1 D.quests.length c1).ownBlock = some d := fun e => (by obtain ⟨cs, f, hb⟩ := HDX.out.v.l5.type e; exact ty_ne HDX.out.v.blk hb (by decide) rfl); have hb9 : w9.heap[d]? = some (.cells #[v1, v2, v3, v4, .slice a1 D.quests.length c1, v6] 50 (0, 0)) := (r2.block d (lt_of_block HDX.out.v.blk) nd).trans HDX.out.v.blk; have f9 : w9.frozen? ⟨d, 4, none⟩ = false := frozen_of_row _ _ _ _ _ hb9; have c9' : w9.cell? ⟨d, 4, none⟩ = some (.slice a1 D.quests.length c1) := (cell_of_row _ _ _ _ _ _ hb9).trans rfl; have R1' := Lib.hid r1; have R2 := Lib.hid r2; have R3 := Lib.hid r3; clear r1 r2 r3 hb9 nd)
      all_goals go_simp
      all_goals go_wp2
      all_goals go_ret
      all_goals
        refine .inl ⟨_, _, _, _, _, _, _, _, _, rfl, rfl, HDX.out.put5 ?_ R2.out (fun b hb => R3.out b hb |>.imp id (fun h => h.1)), ?_⟩
        · have := R1'.out
          unfold Rec
          rw [List.length_append, List.length_singleton, flat_append, flat_one]
          exact this
        · exact Keep.setCell (((HKW.out.trans HKX.out (fun _ h => h.elim)).trans R2.out (fun b hb => .inl (HDX.out.v.o5 b hb)))) _ _ (.inl HDX.out.v.base.1)
  · rw [if_neg (fun hh => hd hh.1)]
    have hpos := List.length_pos_iff.2 hd
    obtain ⟨m, hmm⟩ : ∃ m, m = (r.drop 5).length := ⟨_, rfl⟩
    rw [← hmm] at hpos
    have hg1 : decide (0 < (m : Int)) = true := by rw [decide_eq_true_eq]; omega
    have hg2 : decide (0 < m) = true := by rw [decide_eq_true_eq]; omega
    have HMM := Lib.hid hmm
    clear hd hmm
    go_enter Tryz.func53, Tryz.ntmps53
    go_wp2_with (first
      | (go_at_call 54; (refine HRD.out.mono ?_); rintro e w1 ⟨rfl, r1, k1⟩; have R1 := Lib.hid r1; have K1 := Lib.hid k1; have H1 := Lib.hid (HO.out.keepT k1 HOFF.out); clear r1 k1)
      | (refine wpList_var_any (C := (questC x).toArray) HZ.out HI9.out HZS.out (by simp [questC, Value.oneCell']) rfl rfl rfl (.tmp 9) (.tmp 12) rfl rfl rfl ?_; intro W1 B1 hb1 hk1; have HB := Lib.hid hb1; have KA := Lib.hid hk1; have H2 := Lib.hid (H1.out.keep0 hk1); obtain ⟨rv, hrv, hrs, _⟩ := (R1.out.keep0 hk1).ex; obtain ⟨_, ra, rc, rfl, hrc1, hrc2, _⟩ := hrs; unfold maxLen at hrc2; have cp : W1.cell? ⟨p, 0, none⟩ = some (.slice ra (r.drop 5).length rc) := (cell_of_row W1 p 0 _ _ _ hrv).trans rfl; rw [← HMM.out] at cp; have cc0 : W1.cell? ⟨B1, 0, none⟩ = some (.int .i64 x.id) := (cell_of_row W1 B1 0 _ _ _ hb1).trans rfl; have cc1 : W1.cell? ⟨B1, 1, none⟩ = some (.int .i64 x.item) := (cell_of_row W1 B1 1 _ _ _ hb1).trans rfl; have cc2 : W1.cell? ⟨B1, 2, none⟩ = some (.int .i64 x.count) := (cell_of_row W1 B1 2 _ _ _ hb1).trans rfl; have cc3 : W1.cell? ⟨B1, 3, none⟩ = some (.int .i64 x.gold) := (cell_of_row W1 B1 3 _ _ _ hb1).trans rfl; have cc4 : W1.cell? ⟨B1, 4, none⟩ = some (.int .i64 x.reward) := (cell_of_row W1 B1 4 _ _ _ hb1).trans rfl; clear hb1 hk1 hrv; simp only [Act.put, List.setIfInBounds_toArray, List.set_cons_succ, List.set_cons_zero]))
    go_ret
    exact .inr ⟨rfl, rfl, (K1.out.mono (fun b _ hb => hb ▸ HP.out)).trans KA.out (fun _ h => h.elim)⟩

theorem zJShop : ∃ Z : Array Value, Hid (∀ w : World, (zeroValue 88).run Tryz.prog w = .ok (.agg Z) w) ∧ Hid (Z.size = 3) :=
  ⟨#[.int .i64 0, .int .i64 0, .slice none 0 0], Lib.hid (fun w => by kernel_rfl), Lib.hid rfl⟩
theorem Tryz.infoJShop : (Tryz.prog.info? 88).map (·.size) = some 3 := by kernel_rfl
theorem elJShop : ∃ (i : TypeInfo) (z : Value) (by_ : Nat), Tryz.prog.info? 88 = some i ∧ i.zero = some z ∧ i.size = 3 ∧ i.bytes = by_ ∧ z.cells.size = 3 ∧ by_ ≤ 100 := by
  have h : (Tryz.prog.info? 88).bind (fun i => i.zero.map fun z => (i.size, decide (i.bytes ≤ 100), z.cells.size)) = some (3, true, 3) := by kernel_rfl
  obtain ⟨i, h1, h2⟩ := Option.bind_eq_some_iff.1 h
  obtain ⟨z, h3, h4⟩ := Option.map_eq_some_iff.1 h2
  simp only [Prod.mk.injEq, decide_eq_true_eq] at h4
  exact ⟨i, z, _, h1, h3, h4.1, rfl, h4.2.2, h4.2.1⟩
set_option maxHeartbeats 8000000 in
theorem addShop_any {w : World} {B : Nat → Prop} {d : Nat} {D : DbM} {v1 v2 v3 v4 v5 v6 : Value} {rr : List (RecM × Value)} {ss : List (ShopM × Value)} (h : DbO B w d D v1 v2 v3 v4 v5 v6 rr ss) {p : Nat} {r : List ByteArray} (hr : RdAt w p r) (hs : ShortW r) (hT : T12B B w) (hp : B p) (hl : r.length ≤ 1000000) (hn : D.shops.length ≤ 1000000) :
    Calls Tryz.prog 56 #[.pointer (some ⟨d, 5, none⟩), .pointer (some ⟨p, 0, none⟩), .func (.func 57) #[] #[], .func (.func 58) #[] #[]] w (AddA B w d D (if okShopU (shopP r) = true then some (.shop (shopP r)) else none)) := by
  have HO := Lib.hid h
  have HOFF := Lib.hid (off_reader hr)
  have HRD := Lib.hid (rdShop_any hr hs hT hp hl)
  obtain ⟨x, hx⟩ : ∃ x, x = shopP r := ⟨_, rfl⟩
  rw [← hx] at HRD ⊢
  have HP := Lib.hid hp
  obtain ⟨Z, HZ, HZS⟩ := zJShop
  have HI9 := Lib.hid Tryz.infoJShop
  obtain ⟨i0, z0, by0, hi0, hz0, hz1, hz2, hz3, hz4⟩ := elJShop
  have hn2 : ss.length ≤ 1000000 := by rw [← h.v.fs, List.length_map] at hn; exact hn
  obtain ⟨a1, c1, rfl, hcr, hcr2⟩ := h.v.l6.slice
  unfold maxLen at hcr2
  have CI : Hid (∀ (w9 : World) va vc, Seen w9 1 (.slice va x.items.length vc) x.items.length (icells x.items) → Calls Tryz.prog 58 #[.agg #[.int .i64 x.room, .int .i64 x.till, .slice va x.items.length vc]] w9 fun e w' => e = .returned (.bool (okShopU x)) ∧ Keep (fun _ => False) w9 w') := Lib.hid (fun w9 va vc hv => isShop_any (w := w9) x hv)
  clear h hr hs hT hp hl hx
  cases hk : okShopU x with
  | false =>
    rw [if_neg (by simp)]
    rw [hk] at CI
    clear hk
    go_enter Tryz.func56, Tryz.ntmps56
    go_wp2_with (first
      | (go_at_call 57; (refine HRD.out.mono ?_); rintro e w1 ⟨v, rfl, rw1, ow1, r1, k1⟩; obtain ⟨va, vc, rfl, hvc1, hvc2⟩ := rw1.slice; unfold maxLen at hvc2; have RW := Lib.hid rw1; have OW := Lib.hid ow1; have R1 := Lib.hid r1; have K1 := Lib.hid k1; have H1 := Lib.hid (HO.out.keepT k1 HOFF.out); clear r1 k1 rw1 ow1)
      | (refine wpList_var_any (C := (shopC (x, .slice va x.items.length vc)).toArray) HZ.out HI9.out HZS.out (by simp [shopC, Value.oneCell']) rfl rfl rfl (.tmp 9) (.tmp 12) rfl rfl rfl ?_; intro W1 B1 hb1 hk1; have HB := Lib.hid hb1; have KA := Lib.hid hk1; have H2 := Lib.hid (H1.out.keep0 hk1); obtain ⟨rv, hrv, hrs, _⟩ := (R1.out.keep0 hk1).ex; obtain ⟨_, ra, rc, rfl, hrc1, hrc2, _⟩ := hrs; unfold maxLen at hrc2; have cp : W1.cell? ⟨p, 0, none⟩ = some (.slice ra ([] : List ByteArray).length rc) := (cell_of_row W1 p 0 _ _ _ hrv).trans rfl; simp only [List.length_nil] at cp; have cc0 : W1.cell? ⟨B1, 0, none⟩ = some (.int .i64 x.room) := (cell_of_row W1 B1 0 _ _ _ hb1).trans rfl; have cc1 : W1.cell? ⟨B1, 1, none⟩ = some (.int .i64 x.till) := (cell_of_row W1 B1 1 _ _ _ hb1).trans rfl; have cc2 : W1.cell? ⟨B1, 2, none⟩ = some (.slice va x.items.length vc) := (cell_of_row W1 B1 2 _ _ _ hb1).trans rfl; clear hb1 hk1 hrv; simp only [Act.put, List.setIfInBounds_toArray, List.set_cons_succ, List.set_cons_zero])
      | (go_at_call 58; (refine (CI.out _ va vc ((RW.out.keep KA.out (fun _ _ h => h)).seen)).mono ?_); rintro e w2 ⟨rfl, k2⟩; have K2 := Lib.hid k2; clear k2))
    go_ret
    exact .inr ⟨rfl, rfl, ((K1.out.mono (fun b _ hb => hb ▸ HP.out)).trans KA.out (fun _ h => h.elim)).trans K2.out (fun _ h => h.elim)⟩
  | true =>
    rw [if_pos rfl]
    rw [hk] at CI
    clear hk
    go_enter Tryz.func56, Tryz.ntmps56
    go_wp2_with (first
      | (go_at_call 57; (refine HRD.out.mono ?_); rintro e w1 ⟨v, rfl, rw1, ow1, r1, k1⟩; obtain ⟨va, vc, rfl, hvc1, hvc2⟩ := rw1.slice; unfold maxLen at hvc2; have RW := Lib.hid rw1; have OW := Lib.hid ow1; have R1 := Lib.hid r1; have K1 := Lib.hid k1; have H1 := Lib.hid (HO.out.keepT k1 HOFF.out); clear r1 k1 rw1 ow1)
      | (refine wpList_var_any (C := (shopC (x, .slice va x.items.length vc)).toArray) HZ.out HI9.out HZS.out (by simp [shopC, Value.oneCell']) rfl rfl rfl (.tmp 9) (.tmp 12) rfl rfl rfl ?_; intro W1 B1 hb1 hk1; have HB := Lib.hid hb1; have KA := Lib.hid hk1; have H2 := Lib.hid (H1.out.keep0 hk1); obtain ⟨rv, hrv, hrs, _⟩ := (R1.out.keep0 hk1).ex; obtain ⟨_, ra, rc, rfl, hrc1, hrc2, _⟩ := hrs; unfold maxLen at hrc2; have cp : W1.cell? ⟨p, 0, none⟩ = some (.slice ra ([] : List ByteArray).length rc) := (cell_of_row W1 p 0 _ _ _ hrv).trans rfl; simp only [List.length_nil] at cp; have cc0 : W1.cell? ⟨B1, 0, none⟩ = some (.int .i64 x.room) := (cell_of_row W1 B1 0 _ _ _ hb1).trans rfl; have cc1 : W1.cell? ⟨B1, 1, none⟩ = some (.int .i64 x.till) := (cell_of_row W1 B1 1 _ _ _ hb1).trans rfl; have cc2 : W1.cell? ⟨B1, 2, none⟩ = some (.slice va x.items.length vc) := (cell_of_row W1 B1 2 _ _ _ hb1).trans rfl; clear hb1 hk1 hrv; simp only [Act.put, List.setIfInBounds_toArray, List.set_cons_succ, List.set_cons_zero])
      | (go_at_call 58; (refine (CI.out _ va vc ((RW.out.keep KA.out (fun _ _ h => h)).seen)).mono ?_); rintro e w2 ⟨rfl, k2⟩; have K2 := Lib.hid k2; have hb2 : w2.heap[B1]? = some (.cells (shopC (x, .slice va x.items.length vc)).toArray 88 (0, 0)) := (k2.block B1 (lt_of_block HB.out) (fun h => h)).trans HB.out; have H3 := Lib.hid (H2.out.keep0 k2); have p0 : w2.cell? ⟨d, 5, none⟩ = some (.slice a1 ss.length c1) := (cell_of_row w2 d 5 _ _ _ H3.out.v.blk).trans rfl; have q0 : w2.cell? ⟨B1, 0, none⟩ = some (.int .i64 x.room) := (cell_of_row w2 B1 0 _ _ _ hb2).trans rfl; have q1 : w2.cell? ⟨B1, 1, none⟩ = some (.int .i64 x.till) := (cell_of_row w2 B1 1 _ _ _ hb2).trans rfl; have q2 : w2.cell? ⟨B1, 2, none⟩ = some (.slice va x.items.length vc) := (cell_of_row w2 B1 2 _ _ _ hb2).trans rfl; clear hb2; clear cc0 cc1 cc2; clear k2))
    have HKW : Hid (Keep (fun b => B b) w w2) := Lib.hid (((K1.out.mono (fun b _ hb => hb ▸ HP.out)).trans KA.out (fun _ h => h.elim)).trans K2.out (fun _ h => h.elim))
    have RW2 := Lib.hid ((RW.out.keep KA.out (fun _ _ h => h)).keep K2.out (fun _ _ h => h))
    have HAP : Hid (∀ y ∈ rr.map Prod.snd ++ ss.map Prod.snd, ApartV (.slice va x.items.length vc) y) := Lib.hid (fun y hy k hk hk2 => by
      have h1 := OW.out k hk
      have h2 : k < w.heap.size := by
        rcases List.mem_append.1 hy with hy | hy
        · obtain ⟨z, hz, rfl⟩ := List.mem_map.1 hy
          exact (HO.out.wr z hz).lt hk2
        · obtain ⟨z, hz, rfl⟩ := List.mem_map.1 hy
          exact (HO.out.ws z hz).lt hk2
      omega)
    have HQ : Hid (∀ b, (Value.slice va x.items.length vc).ownBlock = some b → B b) := Lib.hid (fun b hb => by
      have h1 := OW.out b hb
      exact HO.out.v.base.2 b (by omega))
    obtain ⟨X9, hX9⟩ : ∃ X9, X9 = (w2.alloc (.cells (shopC (x, .slice va x.items.length vc)).toArray 88)).drew := ⟨_, rfl⟩
    have HKX : Hid (Keep (fun _ => False) w2 X9) := Lib.hid (by rw [hX9]; exact ((Keep.refl _ w2).alloc _).drew)
    have HDX := Lib.hid (H3.out.keep0 HKX.out)
    have HRX : Hid (Row X9 88 3 (.slice (some ⟨w2.heap.size, 0, none⟩) 1 1) 1 (shopC (x, .slice va x.items.length vc))) := Lib.hid (by rw [hX9]; exact (Row.made (w := w2) (shopC (x, .slice va x.items.length vc)).toArray w2.heap.size 1 rfl (by simp [maxLen]) (by simp [shopC])).drew)
    have hX : (w2.alloc (.cells #[.int .i64 x.room, .int .i64 x.till, .slice va x.items.length vc] 88)).drew = X9 := hX9.symm
    have HXE := Lib.hid hX
    have hds : d < w2.heap.size := lt_of_block H3.out.v.blk
    have hbs : B1 < w2.heap.size := Nat.lt_of_lt_of_le (lt_of_block HB.out) K2.out.size
    clear hX9 hX
    go_wp2
    go_region_law (rw [HXE.out]; refine step_append_rowJ rfl (.tmp 28) (.tmp 30) rfl Tryz.underlying48 hi0 hz0 hz1 hz2 hz3 (by simp [go_sem]) HDX.out.v.l6 (by simp [go_sem]) (HRX.out.src Tryz.underlying48 (by simp [shopC, Value.oneCell'])) (by unfold maxLen; omega) (by have := Nat.mul_le_mul_left (ss.length + 1) hz4; omega) ?_; intro v9 w9 r1 r2 r3 _; obtain ⟨a9, c9, rfl, _, _⟩ := r1.slice; have nd : ¬ (Value.slice a1 ss.length c1).ownBlock = some d := fun e => (by obtain ⟨cs, f, hb⟩ := HDX.out.v.l6.type e; exact ty_ne HDX.out.v.blk hb (by decide) rfl); have hb9 : w9.heap[d]? = some (.cells #[v1, v2, v3, v4, v5, .slice a1 ss.length c1] 50 (0, 0)) := (r2.block d (lt_of_block HDX.out.v.blk) nd).trans HDX.out.v.blk; have f9 : w9.frozen? ⟨d, 5, none⟩ = false := frozen_of_row _ _ _ _ _ hb9; have c9' : w9.cell? ⟨d, 5, none⟩ = some (.slice a1 ss.length c1) := (cell_of_row _ _ _ _ _ _ hb9).trans rfl; have R1' := Lib.hid r1; have R2 := Lib.hid r2; have R3 := Lib.hid r3; clear r1 r2 r3 hb9 nd)
    all_goals go_simp
    all_goals go_wp2
    all_goals go_ret
    all_goals
      refine .inl ⟨_, _, _, _, _, _, _, _, _, rfl, rfl, HDX.out.put6 ?_ R2.out (fun b hb => R3.out b hb |>.imp id (fun h => h.1)) (RW2.out.keep HKX.out (fun _ _ h => h)) HQ.out HAP.out, ?_⟩
      · have := R1'.out
        unfold Rec
        rw [List.length_append, List.length_singleton, flat_append, flat_one]
        exact this
      · exact Keep.setCell (((HKW.out.trans HKX.out (fun _ h => h.elim)).trans R2.out (fun b hb => .inl (HDX.out.v.o6 b hb)))) _ _ (.inl HDX.out.v.base.1)
end Go.Proofs.YtcodbomgodkcmaaGreatDoor.Wd
