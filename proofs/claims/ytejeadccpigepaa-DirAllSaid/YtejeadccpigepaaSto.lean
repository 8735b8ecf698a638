/- Files on blocks, the store: a map from numbers to slices of 512 bytes; what Get, Put, Take, Free of the statements' own store do. -/
import Derived.Test.YtejeadccpigepaaArgs
import Derived.Maps.OwnSet
import Derived.Maps.Ext
import Derived.Deep.MidRow
import Derived.Great.BuildSlice
import Derived.StillTailTactics
namespace Go.Proofs.Ytejeadccpigepaa.Ino
open Go.RowKit Go.Maps Go.Proofs.Ytejeadccpigepaa
set_option maxRecDepth 100000

abbrev apiE (n : Int) : Value := .iface 40 (.int .i64 n)

/-! ### slices as a map's elements -/
def hd (g o c : Nat) : DataW Unit := .agg [.lit (.int .i64 (g : Int)), .lit (.int .i64 (o : Int)), .lit (.int .i64 (c : Int))]

def hdrR (v : Value) : Option (DataW Unit × List MemPlace) :=
  match v with
  | .slice none 0 0 => some (.nil, [])
  | .slice (some ⟨g, o, none⟩) 512 c => some (hd g o c, [])
  | _ => none

theorem hdrR_mk (g o c : Nat) : hdrR (.slice (some ⟨g, o, none⟩) 512 c) = some (hd g o c, []) := rfl
theorem hdrR_nil : hdrR (.slice none 0 0) = some (.nil, []) := rfl

theorem hdrR_inv {v : Value} {g o c : Nat} {ps : List MemPlace} (h : hdrR v = some (hd g o c, ps)) : v = .slice (some ⟨g, o, none⟩) 512 c := by
  unfold hdrR at h
  split at h
  · simp [hd] at h
  · simp only [hd, Option.some.injEq, Prod.mk.injEq, DataW.agg.injEq, List.cons.injEq, DataW.lit.injEq, Lit.int.injEq, true_and, and_true] at h
    obtain ⟨⟨h1, h2, h3⟩, _⟩ := h
    have e1 := Int.ofNat.inj h1; have e2 := Int.ofNat.inj h2; have e3 := Int.ofNat.inj h3
    subst e1; subst e2; subst e3; rfl
  · cases h

/-- What a store holds: what stands in each block that is out, how many are, how many there may be, the last number that was given out. -/
structure Sto where
  f : Nat → Option (List UInt8)
  c : Nat
  most : Nat
  nxt : Nat

def Sto.set (S : Sto) (n : Nat) (l : Option (List UInt8)) : Nat → Option (List UInt8) := fun k => if k = n then l else S.f k

def lk (k : Nat) : Lit := .int .i64 (k : Int)
theorem lk_ne {k j : Nat} (h : k ≠ j) : lk k ≠ lk j := fun e => h (by simp only [lk, Lit.int.injEq, true_and] at e; exact Int.ofNat.inj e)
theorem lk_key (k : Nat) : WideAt.IsKeyLit (lk k) := by simp [lk, WideAt.IsKeyLit]

/-- What a number's place holds. -/
def PlaceAt (w : World) (F : Nat → Prop) (D : DataW Unit) (k : Nat) (l? : Option (List UInt8)) : Prop :=
  match l? with
  | none => Maps.has D (lk k) = false
  | some l => Maps.has D (lk k) = true ∧ l.length = 512 ∧ ∃ g o c, D.atKey (lk k) .nil = hd g o c ∧ Row w 5 1 (.slice (some ⟨g, o, none⟩) 512 c) 512 (bcells l) ∧ F g

theorem PlaceAt.go {w w' : World} {F F' : Nat → Prop} {D D' : DataW Unit} {k : Nat} {l? : Option (List UInt8)} (h : PlaceAt w F D k l?) (hh : Maps.has D' (lk k) = Maps.has D (lk k)) (ha : D'.atKey (lk k) .nil = D.atKey (lk k) .nil)
    (hr : ∀ g o c l, F g → Row w 5 1 (.slice (some ⟨g, o, none⟩) 512 c) 512 (bcells l) → Row w' 5 1 (.slice (some ⟨g, o, none⟩) 512 c) 512 (bcells l)) (hF : ∀ g, F g → F' g) : PlaceAt w' F' D' k l? := by
  cases l? with
  | none => exact hh.trans h
  | some l =>
    obtain ⟨h1, h2, g, o, c, h3, h4, h5⟩ := h
    exact ⟨hh.trans h1, h2, g, o, c, ha.trans h3, hr g o c l h5 h4, hF g h5⟩

structure IsSto (w : World) (F : Nat → Prop) (s b : Nat) (D : DataW Unit) (S : Sto) : Prop where
  head : w.heap[s]? = some (.cells #[.map (some b), .int .i64 (S.most : Int), .int .i64 (S.nxt : Int), .bool false] 27 (0, 0))
  own : w.ownsMap Try.prog 3 hdrR b 1000000 D
  size : Maps.size D = S.c
  each : ∀ k, PlaceAt w F D k (S.f k)
  small : ∀ k, S.f k ≠ none → 0 < k ∧ k ≤ S.nxt
  nxt : S.nxt < 100000
  cmax : S.c ≤ S.nxt
  most : S.most < 100000
  fs : F s
  fb : F b
  lt : ∀ x, F x → x < w.heap.size

def grow (F : Nat → Prop) (w w' : World) : Nat → Prop := fun x => F x ∨ (w.heap.size ≤ x ∧ x < w'.heap.size)

section
variable {w w' : World} {F : Nat → Prop} {s b : Nat} {D : DataW Unit} {S : Sto}

theorem IsSto.cell (h : IsSto w F s b D S) (i : Nat) : w.cell? ⟨s, i, none⟩ = (#[.map (some b), .int .i64 (S.most : Int), .int .i64 (S.nxt : Int), .bool false] : Array Value)[i]? := cell_of_row _ _ _ _ _ _ h.head
theorem IsSto.free (h : IsSto w F s b D S) (i : Nat) : w.frozen? ⟨s, i, none⟩ = false := frozen_of_row _ _ _ _ _ h.head

theorem IsSto.keep {G : Nat → Prop} (h : IsSto w F s b D S) (k : Keep G w w') (hG : ∀ x, F x → ¬ G x) : IsSto w' F s b D S := by
  refine ⟨(k.block s (lt_of_block h.head) (hG s h.fs)).trans h.head, ?_, h.size, fun j => (h.each j).go rfl rfl (fun g o c l hg hr => hr.keep k (fun x hx => by simp [Value.ownBlock] at hx; subst hx; exact hG _ hg)) (fun _ h => h), h.small, h.nxt, h.cmax, h.most, h.fs, h.fb, fun x hx => Nat.lt_of_lt_of_le (h.lt x hx) k.size⟩
  have hlt := h.own.lt
  obtain ⟨es, clock, hb, F', hs, hD⟩ := h.own
  exact ⟨es, clock, (k.block b hlt (hG b h.fb)).trans hb, F', hs, hD⟩

theorem IsSto.keep0 (h : IsSto w F s b D S) (k : Keep (fun _ => False) w w') : IsSto w' F s b D S := h.keep k (fun _ _ h => h)

theorem IsSto.nil0 (h : IsSto w F s b D S) : S.f 0 = none := by
  cases e : S.f 0 with
  | none => rfl
  | some l => have := (h.small 0 (by rw [e]; simp)).1; omega
end

theorem Try.lawKI : Keyed Try.prog 3 := int_keyed Try.underlying3
theorem Try.zeroHdr (w : World) : (zeroValue 71).run Try.prog w = .ok (.slice none 0 0) w := by kernel_rfl

theorem lk_wf (k : Nat) (h : k < 1000000) : keyOf Try.prog 3 (.int .i64 (k : Int)) = some (lk k) := keyOf_int_mk Try.underlying3 (WalkArith.wf_i64 (by omega))

/-- A look-up of a number that is out. -/
theorem look_some {w : World} {F : Nat → Prop} {s b : Nat} {D : DataW Unit} {S : Sto} (h : IsSto w F s b D S) {n : Nat} {l : List UInt8} (hn : S.f n = some l) :
    ∃ g o c, Row w 5 1 (.slice (some ⟨g, o, none⟩) 512 c) 512 (bcells l) ∧ F g ∧ l.length = 512 ∧ ∀ ok : Bool, (Instr.lookup 25 (.map (some b)) (.int .i64 (n : Int)) ok).run Try.prog w = .ok (if ok then .tuple #[.slice (some ⟨g, o, none⟩) 512 c, .bool true] else .slice (some ⟨g, o, none⟩) 512 c) w := by
  have hb := h.small n (by rw [hn]; simp)
  have hx := h.nxt
  have he := h.each n
  rw [hn] at he
  obtain ⟨h1, h2, g, o, c, h3, h4, h5⟩ := he
  refine ⟨g, o, c, h4, h5, h2, fun ok => ?_⟩
  cases ok
  · obtain ⟨v, ps, hrun, hv⟩ := h.own.lookup Try.lawKI Try.underlying25 (Try.zeroHdr w) hdrR_nil (lk_wf n (by omega))
    rw [h3] at hv
    rw [hdrR_inv hv] at hrun
    exact hrun
  · obtain ⟨v, ps, hrun, hv⟩ := h.own.look_ok Try.lawKI Try.underlying25 (Try.zeroHdr w) hdrR_nil (lk_wf n (by omega))
    rw [h3] at hv
    rw [hdrR_inv hv, h1] at hrun
    exact hrun

theorem step_append_row {P : Program} {w : World} {ops : Array Oper} {o : Oper} {a : Act} {K : Act → World → Prop} {Q : Exit → Act → World → Prop} {E : Prop} (hgd : o.guard = none) (s x : Operand) {t tx : TypeId}
    (ho : o.op = .call { callee := .builtin .append, args := #[s, x], argTypes := #[t, tx] })
    {e : TypeId} {i : TypeInfo} {z : Value} {size bytes : Nat} (ht : P.underlying t = some (.slice e)) (hi : P.info? e = some i) (hz : i.zero = some z)
    (hsize : i.size = size) (hby : i.bytes = bytes) (hzs : z.cells.size = size)
    {v : Value} {n : Nat} {xs : List Value} (hv : a.eval s = v) (h : Row w e size v n xs) {vx : Value} (hx : a.eval x = vx) {m : Nat} {news : List Value} (hs : Src P size tx vx m news w)
    (h63 : n + m ≤ maxLen) (hbytes : (n + m) * bytes ≤ 140737488355328)
    (hK : ∀ v' w', Row w' e size v' (n + m) (xs ++ news) → Keep (fun b => v.ownBlock = some b) w w' → (∀ b, v'.ownBlock = some b → v.ownBlock = some b ∨ (w.heap.size ≤ b ∧ b < w'.heap.size)) →
      (v' = .slice none 0 0 ↔ v = .slice none 0 0 ∧ m = 0) → K (a.put o.dst v') w') : if Region.wanted o (yielded ops a.tmps) = true then Oper.wp P o a w K Q else E := by
  have hw : Region.wanted o (yielded ops a.tmps) = true := by simp [Region.wanted, hgd]
  rw [if_pos hw]
  obtain ⟨v', w', hr, h2, h3, h4, h5⟩ := run_append_row (P := P) w o.type ht hi hz hsize hby hzs h hs h63 hbytes
  unfold Oper.wp execOp
  simp only [ho, resolve, invoke, builtin, Sem.run_bind, Sem.run_pure, Result.andThen_ok, List.map_toArray, List.map_cons, List.map_nil, hv, hx, hr]
  exact hK v' w' h2 h3 h4 h5

theorem own_reset {w : World} {b n m : Nat} {D : DataW Unit} (h : w.ownsMap Try.prog 3 hdrR b n D) (hm : Maps.size D ≤ m) : w.ownsMap Try.prog 3 hdrR b m D := by
  obtain ⟨es, clock, hb, F, _, hD⟩ := h
  refine ⟨es, clock, hb, F, ?_, hD⟩
  have e := congrArg Maps.size hD
  rw [Maps.size_eq, length_sorted] at e
  simp at e
  omega

set_option maxHeartbeats 1000000 in
theorem sget_any {w : World} {F : Nat → Prop} {s b : Nat} {D : DataW Unit} {S : Sto} (h : IsSto w F s b D S) {n : Nat} {l : List UInt8} (hn : S.f n = some l) :
    Calls Try.prog 96 #[.pointer (some ⟨s, 0, none⟩), .int .i64 (n : Int)] w fun e w' => ∃ g o c, e = .returned (.tuple #[.slice (some ⟨g, o, none⟩) 512 c, .nilIface]) ∧ Row w' 5 1 (.slice (some ⟨g, o, none⟩) 512 c) 512 (bcells l) ∧ Keep (fun _ => False) w w' := by
  obtain ⟨g, o, c, hr, hg, hl, hlook⟩ := look_some h hn
  have c0 := h.cell 0
  simp only [List.getElem?_toArray, List.getElem?_cons_zero] at c0
  obtain ⟨i0, hi0, hz0, hz1, hz2⟩ := info_parts Try.infoB
  have HR := Lib.hid hr
  have hlook := hlook true
  simp only [if_true] at hlook
  clear h hr
  go_enter Try.func96, Try.ntmps96
  go_wp2_with (at_builtin; go_loud (refine wpList_append_row _ rfl (.const (.slice none 0 0)) (.tmp 23) rfl Try.underlying71 hi0 hz0 hz1 hz2 rfl rfl (Row.nil _ _ _) rfl (HR.out.src Try.underlying71 (bcells_one l)) (by unfold maxLen; omega) (by omega) ?k1))
  case k1 =>
    intro v8 w1 r1 r2 r3 _
    obtain ⟨g8, o8, c8, rfl, _, _⟩ := r1.full (by omega)
    have k1 : Keep (fun _ => False) w w1 := r2.mono (fun x _ hx => by simp [Value.ownBlock] at hx)
    have R1 := Lib.hid r1; have K1 := Lib.hid k1
    clear r1 r2 r3 k1
    go_wp2
    go_ret2
    exact ⟨g8, o8, c8, rfl, R1.out, K1.out⟩

/-- A number's block has been told anew. -/
theorem IsSto.turned {w w' : World} {F F' : Nat → Prop} {s b : Nat} {D : DataW Unit} {S : Sto} (h : IsSto w F s b D S) {n : Nat} (hF : ∀ x, F x → F' x) (hF' : ∀ x, F' x → x < w'.heap.size) {D' : DataW Unit} {l? : Option (List UInt8)} {c nxt : Nat}
    (hh : w'.heap[s]? = some (.cells #[.map (some b), .int .i64 (S.most : Int), .int .i64 (nxt : Int), .bool false] 27 (0, 0))) (ho : w'.ownsMap Try.prog 3 hdrR b 1000000 D') (hs : Maps.size D' = c)
    (hr : ∀ g o c l, F g → Row w 5 1 (.slice (some ⟨g, o, none⟩) 512 c) 512 (bcells l) → Row w' 5 1 (.slice (some ⟨g, o, none⟩) 512 c) 512 (bcells l))
    (hother : ∀ j, j ≠ n → Maps.has D' (lk j) = Maps.has D (lk j) ∧ D'.atKey (lk j) .nil = D.atKey (lk j) .nil) (hn : PlaceAt w' F' D' n l?) (hn0 : l? ≠ none → 0 < n ∧ n ≤ nxt) (h1 : nxt < 100000) (h2 : c ≤ nxt) (h3 : S.nxt ≤ nxt) :
    IsSto w' F' s b D' { S with f := S.set n l?, c := c, nxt := nxt } := by
  refine ⟨hh, ho, hs, fun j => ?_, fun j hj => ?_, h1, h2, h.most, hF _ h.fs, hF _ h.fb, hF'⟩
  · by_cases e : j = n
    · subst e
      simp only [Sto.set, if_true]
      exact hn
    · simp only [Sto.set, if_neg e]
      exact (h.each j).go (hother j e).1 (hother j e).2 hr hF
  · by_cases e : j = n
    · subst e
      simp only [Sto.set, if_true] at hj
      exact hn0 hj
    · simp only [Sto.set, if_neg e] at hj
      have := h.small j hj; simp only; omega

theorem map_keep {b : Nat} {w w' : World} (h : w.mapTurned w' b) : Keep (fun x => x = b) w w' ∧ w'.heap.size = w.heap.size := by
  have h1 := h.grown
  refine ⟨⟨h1.os, h1.tape, h1.output, h1.size, fun k hk hne => h1.block k hk (fun e => hne (by simpa using e))⟩, ?_⟩
  obtain ⟨_, _, _, _, _, rfl⟩ := h
  simp [ChangeMaps.setBlock]

theorem hd_ne (g o c : Nat) : hd g o c ≠ .nil := by simp [hd]

/-- Put's last steps. -/
theorem put_step {w w1 : World} {F : Nat → Prop} {s b : Nat} {D : DataW Unit} {S : Sto} (h : IsSto w F s b D S) {n : Nat} {l0 l : List UInt8} (hn : S.f n = some l0) (hl : l.length = 512) {v8 : Value}
    (r1 : Row w1 5 1 v8 (0 + 512) ([] ++ bcells l)) (r2 : Keep (fun b => (Value.slice none 0 0).ownBlock = some b) w w1) (r3 : ∀ b, v8.ownBlock = some b → (Value.slice none 0 0).ownBlock = some b ∨ (w.heap.size ≤ b ∧ b < w1.heap.size)) :
    ∃ g8 o8 c8, v8 = .slice (some ⟨g8, o8, none⟩) 512 c8 ∧ ∃ w3, (Instr.mapUpdate 25 (.map (some b)) (.int .i64 (n : Int)) v8).run Try.prog w1 = .ok () w3 ∧
      Hid (.returned (.nilIface : Value) = Ending.returned .nilIface ∧ (∃ D', IsSto w3 (grow F w w3) s b D' { S with f := S.set n (some l) }) ∧ Keep F w w3) := by
  rw [List.nil_append, Nat.zero_add] at r1
  obtain ⟨g8, o8, c8, rfl, _, _⟩ := r1.full (by omega)
  have k1 : Keep (fun _ => False) w w1 := r2.mono (fun x _ hx => by simp [Value.ownBlock] at hx)
  have hg8 : w.heap.size ≤ g8 ∧ g8 < w1.heap.size := by
    rcases r3 g8 rfl with h | h
    · simp [Value.ownBlock] at h
    · exact h
  have h1 := h.keep0 k1
  have hb := h.small n (by rw [hn]; simp)
  have hx := h.nxt
  have hs1 := k1.size
  obtain ⟨w3, hrun, q1, q2⟩ := h1.own.store Try.lawKI Try.underlying25 (by unfold maxLen; omega) (lk_wf n (by omega)) (hdrR_mk g8 o8 c8)
  have hbl := h.lt b h.fb
  have hsl := h.lt s h.fs
  obtain ⟨kb, hsz⟩ := map_keep q2
  have ht := h.own.tidy Try.lawKI
  have hhas : Maps.has D (lk n) = true := by have := h.each n; rw [hn] at this; exact this.1
  have hsize : Maps.size (D.put (lk n) (hd g8 o8 c8)) = S.c := by rw [size_put ht, hhas, if_pos rfl]; exact h.size
  have hsb : ¬ s = b := fun e => by
    obtain ⟨es, clock, hh, _⟩ := h.own
    have := h.head; rw [e, hh] at this; cases this
  have kk : Keep F w w3 := (k1.mono (fun _ _ h => h.elim)).trans kb (fun x e => .inl (by rw [e]; exact h.fb))
  have hrow3 : Row w3 5 1 (.slice (some ⟨g8, o8, none⟩) 512 c8) 512 (bcells l) := r1.keep kb (fun x hx e => by simp [Value.ownBlock] at hx; omega)
  have := h.turned (w' := w3) (F' := grow F w w3) (n := n) (D' := D.put (lk n) (hd g8 o8 c8)) (l? := some l) (c := S.c) (nxt := S.nxt) (fun _ h => .inl h) (fun x hx => by
    rcases hx with hx | hx
    · have := h.lt x hx; omega
    · omega) ((kb.block s (Nat.lt_of_lt_of_le hsl hs1) hsb).trans ((k1.block s hsl (fun h => h)).trans h.head)) (own_reset q1 (by rw [hsize]; have := h.cmax; omega)) hsize
    (fun g o c l hg hr => (hr.keep k1 (fun _ _ h => h)).keep kb (fun x hx e => by
      simp [Value.ownBlock] at hx
      obtain ⟨cs, f, t1⟩ := (hr.keep k1 (fun _ _ h => h)).type (b := g) rfl
      obtain ⟨es, clock, t2, _⟩ := h1.own
      rw [← e, ← hx, t1] at t2; cases t2))
    (fun j hj => ⟨has_put_other (lk_ne hj) _, atKey_put_other (lk_ne hj) _ _⟩) ⟨has_put_same h.own.isMap (lk_key n) _, hl, g8, o8, c8, atKey_put_same h.own.isMap (lk_key n) _ _, hrow3, .inr ⟨hg8.1, by omega⟩⟩ (fun _ => hb) h.nxt h.cmax (Nat.le_refl _)
  exact ⟨g8, o8, c8, rfl, w3, hrun, Lib.hid ⟨rfl, ⟨_, this⟩, kk⟩⟩

set_option maxHeartbeats 1000000 in
theorem sput_any {w : World} {F : Nat → Prop} {s b : Nat} {D : DataW Unit} {S : Sto} (h : IsSto w F s b D S) {n : Nat} {l0 l : List UInt8} (hn : S.f n = some l0) {e : TypeId} {v : Value} (hv : Row w e 1 v 512 (bcells l)) (hl : l.length = 512) :
    Calls Try.prog 97 #[.pointer (some ⟨s, 0, none⟩), .int .i64 (n : Int), v] w fun e w' => e = .returned .nilIface ∧ (∃ D', IsSto w' (grow F w w') s b D' { S with f := S.set n (some l) }) ∧ Keep F w w' := by
  obtain ⟨g, o, c, hr, hg, hl0, hlook⟩ := look_some h hn
  have c0 := h.cell 0
  simp only [List.getElem?_toArray, List.getElem?_cons_zero] at c0
  obtain ⟨i0, hi0, hz0, hz1, hz2⟩ := info_parts Try.infoB
  obtain ⟨gv, ov, cv, rfl, hcv, hcv2⟩ := hv.full (by omega)
  unfold maxLen at hcv2
  have HS := Lib.hid h; have HV := Lib.hid hv
  have hlook := hlook true
  simp only [if_true] at hlook
  clear h hr hv
  have HSD : Hid (IsSto w.drew F s b D S) := Lib.hid (HS.out.keep0 (Keep.refl (fun _ => False) w).drew)
  have HVD : Hid (Row w.drew e 1 (.slice (some ⟨gv, ov, none⟩) 512 cv) 512 (bcells l)) := Lib.hid HV.out.drew
  have KD : Hid (Keep (fun _ => False) w w.drew) := Lib.hid (Keep.refl (fun _ => False) w).drew
  go_enter Try.func97, Try.ntmps97
  go_wp2_with fail
  go_region_law (refine step_append_row rfl (.const (.slice none 0 0)) (.tmp 34) rfl Try.underlying71 hi0 hz0 hz1 hz2 rfl (by simp [go_sem]) (Row.nil _ _ _) (by simp [go_sem]) (HVD.out.src Try.underlying71 (bcells_one l)) (by unfold maxLen; omega) (by omega) ?_; intro v8 w1 r1 r2 r3 _; obtain ⟨g8, o8, c8, rfl, w3, hrun, HP⟩ := put_step HSD.out hn hl r1 r2 r3; have c1 : w1.cell? ⟨s, 0, none⟩ = some (.map (some b)) := ((r2.cell (lt_of_block HSD.out.head) (fun hx => by simp [Value.ownBlock] at hx) 0).trans (HSD.out.cell 0)).trans rfl; clear r1 r2 r3)
  all_goals go_simp
  all_goals go_wp2
  all_goals go_ret
  all_goals exact ⟨rfl, HP.out.2.1, (Keep.refl F w).drew.trans HP.out.2.2 (fun _ h => .inl h)⟩

theorem IsSto.freed {w w1 : World} {F : Nat → Prop} {s b : Nat} {D : DataW Unit} {S : Sto} (h : IsSto w F s b D S) {n : Nat} {l0 : List UInt8} (hn : S.f n = some l0) (q1 : w.mapTurned w1 b) (h1 : w1.ownsMap Try.prog 3 hdrR b 1000000 (D.del (lk n))) :
    IsSto w1 (grow F w w1) s b (D.del (lk n)) { S with f := S.set n none, c := S.c - 1 } := by
  obtain ⟨kb, hsz⟩ := map_keep q1
  have ht := h.own.tidy Try.lawKI
  have hhas : Maps.has D (lk n) = true := by have := h.each n; rw [hn] at this; exact this.1
  have hs := size_del (k := lk n) ht
  rw [hhas, if_pos rfl, h.size] at hs
  have hsb : ¬ s = b := fun e => by
    obtain ⟨es, clock, hh, _⟩ := h.own
    have := h.head; rw [e, hh] at this; cases this
  exact h.turned (w' := w1) (F' := grow F w w1) (n := n) (D' := D.del (lk n)) (l? := none) (c := S.c - 1) (nxt := S.nxt) (fun _ h => .inl h) (fun x hx => by
    rcases hx with hx | hx
    · have := h.lt x hx; omega
    · omega) ((kb.block s (lt_of_block h.head) hsb).trans h.head) h1 (by omega)
    (fun g o c l hg hr => hr.keep kb (fun x hx e => by
      simp [Value.ownBlock] at hx
      obtain ⟨cs, f, t1⟩ := hr.type (b := g) rfl
      obtain ⟨es, clock, t2, _⟩ := h.own
      rw [← e, ← hx, t1] at t2; cases t2))
    (fun j hj => ⟨has_del_other (lk_ne hj), atKey_del_other (lk_ne hj) _⟩) has_del_same (fun e => (e rfl).elim) h.nxt (by have := h.cmax; omega) (Nat.le_refl _)

set_option maxHeartbeats 1000000 in
theorem sfree_any {w : World} {F : Nat → Prop} {s b : Nat} {D : DataW Unit} {S : Sto} (h : IsSto w F s b D S) {n : Nat} {l0 : List UInt8} (hn : S.f n = some l0) :
    Calls Try.prog 95 #[.pointer (some ⟨s, 0, none⟩), .int .i64 (n : Int)] w fun e w' => e = .returned .nilIface ∧ (∃ D', IsSto w' (grow F w w') s b D' { S with f := S.set n none, c := S.c - 1 }) ∧ Keep F w w' := by
  obtain ⟨g, o, c, hr, hg, hl0, hlook⟩ := look_some h hn
  have c0 := h.cell 0
  simp only [List.getElem?_toArray, List.getElem?_cons_zero] at c0
  have HS := Lib.hid h
  have hlook := hlook true
  simp only [if_true] at hlook
  have hb := h.small n (by rw [hn]; simp)
  have hx := h.nxt
  clear h hr
  go_enter Try.func95, Try.ntmps95
  go_wp2_with (at_delete; refine wpList_delete_own _ rfl _ _ 25 3 rfl 71 Try.lawKI Try.underlying25 hdrR b 1000000 D rfl HS.out.own _ (lk n) rfl (lk_wf n (by omega)) ?_; intro w1 h1 q1; have H1 := Lib.hid h1; have Q1 := Lib.hid q1; clear h1 q1)
  go_ret
  obtain ⟨kb, hsz⟩ := map_keep Q1.out
  exact ⟨rfl, ⟨_, HS.out.freed hn Q1.out H1.out⟩, kb.mono (fun x _ e => by rw [e]; exact HS.out.fb)⟩

set_option maxHeartbeats 1000000 in
theorem stake_full {w : World} {F : Nat → Prop} {s b : Nat} {D : DataW Unit} {S : Sto} (h : IsSto w F s b D S) (hf : S.most ≤ S.c) :
    Calls Try.prog 98 #[.pointer (some ⟨s, 0, none⟩)] w fun e w' => e = .returned (.tuple #[.int .i64 0, apiE 2]) ∧ ∃ n, w' = w.drewN n := by
  have c0 := h.cell 0
  have c1 := h.cell 1
  simp only [List.getElem?_toArray, List.getElem?_cons_zero, List.getElem?_cons_succ] at c0 c1
  have HS := Lib.hid h
  have HZ := Lib.hid h.size
  have hlen : ∀ nn ty, (Builtin.len_ #[25] ty #[.map (some b)]).run Try.prog (w.drewN nn) = .ok (.int .i64 (S.c : Int)) (w.drewN nn) := fun nn ty => by
    have := (HS.out.keep0 (w' := w.drewN nn) ⟨rfl, rfl, rfl, Nat.le_refl _, fun _ _ _ => rfl⟩).own.len Try.underlying25 ty
    rw [HZ.out] at this
    exact this
  have hd : decide ((S.most : Int) ≤ (S.c : Int)) = true := by rw [decide_eq_true_eq]; omega
  clear h
  go_enter Try.func98, Try.ntmps98
  go_wp2
  go_quiet (fail)
  go_wp2
  go_ret2
  exact ⟨rfl, ⟨nq, rfl⟩⟩

/-- Behind Take's store into the map. -/
structure Taking (w wB w3 : World) (F : Nat → Prop) (s b : Nat) (D : DataW Unit) (S : Sto) (Z : Array Value) : Prop where
  c0 : (wB.alloc (.cells Z 5)).cell? ⟨s, 0, none⟩ = some (.map (some b))
  c2 : (wB.alloc (.cells Z 5)).cell? ⟨s, 2, none⟩ = some (.int .i64 ((S.nxt : Int) + 1))
  head : w3.heap[s]? = some (.cells #[.map (some b), .int .i64 (S.most : Int), .int .i64 ((S.nxt : Int) + 1), .bool false] 27 (0, 0))
  own : w3.ownsMap Try.prog 3 hdrR b 1000000 (D.put (lk (S.nxt + 1)) (hd wB.heap.size 0 512))
  size : Maps.size (D.put (lk (S.nxt + 1)) (hd wB.heap.size 0 512)) = S.c + 1
  row : w3.heap[wB.heap.size]? = some (.cells Z 5 (0, 0))
  keep : Keep (fun x => x = s ∨ x = b) w w3
  szB : wB.heap.size = w.heap.size
  sz3 : w3.heap.size = w.heap.size + 1

theorem IsSto.taking {w : World} {F : Nat → Prop} {s b : Nat} {D : DataW Unit} {S : Sto} (h : IsSto w F s b D S) (nn : Nat) :
    ((w.drewN nn).setCell ⟨s, 2, none⟩ (.int .i64 ((S.nxt : Int) + 1))).cell? ⟨s, 0, none⟩ = some (.map (some b)) ∧ ((w.drewN nn).setCell ⟨s, 2, none⟩ (.int .i64 ((S.nxt : Int) + 1))).cell? ⟨s, 2, none⟩ = some (.int .i64 ((S.nxt : Int) + 1)) ∧
    (S.nxt + 1 < 100000 → ∀ Z, ∃ w3, (Instr.mapUpdate 25 (.map (some b)) (.int .i64 ((S.nxt : Int) + 1)) (.slice (some ⟨((w.drewN nn).setCell ⟨s, 2, none⟩ (.int .i64 ((S.nxt : Int) + 1))).heap.size, 0, none⟩) 512 512)).run Try.prog ((((w.drewN nn).setCell ⟨s, 2, none⟩ (.int .i64 ((S.nxt : Int) + 1))).alloc (.cells Z 5)).drew) = .ok () w3 ∧
      Taking w ((w.drewN nn).setCell ⟨s, 2, none⟩ (.int .i64 ((S.nxt : Int) + 1))) w3 F s b D S Z) := by
  have hw : (w.drewN nn).heap[s]? = some (.cells #[.map (some b), .int .i64 (S.most : Int), .int .i64 (S.nxt : Int), .bool false] 27 (0, 0)) := h.head
  have hh : ((w.drewN nn).setCell ⟨s, 2, none⟩ (.int .i64 ((S.nxt : Int) + 1))).heap[s]? = some (.cells #[.map (some b), .int .i64 (S.most : Int), .int .i64 ((S.nxt : Int) + 1), .bool false] 27 (0, 0)) := by
    rw [heap_setCell_at _ hw]; rfl
  have kB : Keep (fun x => x = s) w ((w.drewN nn).setCell ⟨s, 2, none⟩ (.int .i64 ((S.nxt : Int) + 1))) := (show Keep (fun x => x = s) w (w.drewN nn) from ⟨rfl, rfl, rfl, Nat.le_refl _, fun _ _ _ => rfl⟩).setCell ⟨s, 2, none⟩ _ (.inl rfl)
  have hsz : ((w.drewN nn).setCell ⟨s, 2, none⟩ (.int .i64 ((S.nxt : Int) + 1))).heap.size = w.heap.size := by simp
  generalize (w.drewN nn).setCell ⟨s, 2, none⟩ (.int .i64 ((S.nxt : Int) + 1)) = wB at *
  refine ⟨(cell_of_row _ _ _ _ _ _ hh).trans rfl, (cell_of_row _ _ _ _ _ _ hh).trans rfl, fun hx Z => ?_⟩
  have hsb : ¬ b = s := fun e => by
    obtain ⟨es, clock, hh, _⟩ := h.own
    have := h.head; rw [← e, hh] at this; cases this
  have kC : Keep (fun x => x = s) w ((wB.alloc (.cells Z 5)).drew) := (kB.alloc _).drew
  have ho : ((wB.alloc (.cells Z 5)).drew).ownsMap Try.prog 3 hdrR b 1000000 D := by
    have hlt := h.own.lt
    obtain ⟨es, clock, hb, F', hs, hD⟩ := h.own
    exact ⟨es, clock, (kC.block b hlt hsb).trans hb, F', hs, hD⟩
  have hkey := lk_wf (S.nxt + 1) (by omega)
  rw [Int.natCast_add] at hkey
  obtain ⟨w3, hrun, q1, q2⟩ := ho.store Try.lawKI Try.underlying25 (by unfold maxLen; omega) hkey (hdrR_mk wB.heap.size 0 512)
  obtain ⟨kb, hs3⟩ := map_keep q2
  have ht := h.own.tidy Try.lawKI
  have hhas : Maps.has D (lk (S.nxt + 1)) = false := by
    have := h.each (S.nxt + 1)
    cases e : S.f (S.nxt + 1) with
    | none => rw [e] at this; exact this
    | some l => have := h.small (S.nxt + 1) (by rw [e]; simp); omega
  have hsize : Maps.size (D.put (lk (S.nxt + 1)) (hd wB.heap.size 0 512)) = S.c + 1 := by rw [size_put ht, hhas, if_neg (by simp), h.size]
  have hlts := h.lt s h.fs
  have hltb := h.lt b h.fb
  have hszC : ((wB.alloc (.cells Z 5)).drew).heap.size = w.heap.size + 1 := by simp; exact hsz
  have hhC : ((wB.alloc (.cells Z 5)).drew).heap[s]? = wB.heap[s]? := (((Keep.refl (fun _ => False) wB).alloc (.cells Z 5)).drew).block s (by omega) (fun h => h)
  refine ⟨w3, hrun, ⟨?_, ?_, ?_, own_reset q1 (by rw [hsize]; have := h.cmax; omega), hsize, ?_, ?_, hsz, by omega⟩⟩
  · have := cell_of_row _ s 0 _ _ _ (hhC.trans hh); exact this
  · have := cell_of_row _ s 2 _ _ _ (hhC.trans hh); exact this
  · exact (kb.block s (by omega) (fun e => hsb e.symm)).trans (hhC.trans hh)
  · exact (kb.block wB.heap.size (by omega) (fun e => by have : wB.heap.size = b := e; omega)).trans (heap_alloc_new wB _)
  · exact (kC.mono (fun _ _ h => .inl h)).trans kb (fun x e => .inl (.inr e))

/-- While Take fills its block. -/
structure Filling (w wB w3 : World) (F : Nat → Prop) (s b : Nat) (D : DataW Unit) (S : Sto) (Z : Array Value) (wr : World) : Prop where
  at3 : Taking w wB w3 F s b D S Z
  ex : ∃ l : List UInt8, l.length = 512 ∧ wr.heap[wB.heap.size]? = some (.cells (bcells l).toArray 5 (0, 0))
  keep : Keep (fun x => x = wB.heap.size) w3 wr

section
variable {w wB w3 wr : World} {F : Nat → Prop} {s b : Nat} {D : DataW Unit} {S : Sto} {Z : Array Value}

theorem Taking.begun (h : Taking w wB w3 F s b D S Z) (hZ : Z = madeCells #[Value.int .u8 0] 512) : Filling w wB w3 F s b D S Z w3 := by
  refine ⟨h, ⟨List.replicate 512 0, List.length_replicate, ?_⟩, Keep.refl _ _⟩
  rw [h.row, hZ]
  have e : (madeCells #[Value.int .u8 0] 512).toList = bcells (List.replicate 512 0) := by
    rw [toList_madeCells_one]; simp [bcells]
  rw [← e]

theorem Filling.sg (h : Filling w wB w3 F s b D S Z wr) : ¬ s = wB.heap.size ∧ ¬ b = wB.heap.size := by
  refine ⟨fun e => ?_, fun e => ?_⟩
  · have h1 := h.at3.head; have h2 := h.at3.row
    rw [e, h2] at h1
    simp only [Option.some.injEq, Obj.cells.injEq] at h1
    exact absurd h1.2.1 (by decide)
  · obtain ⟨es, clock, hh, _⟩ := h.at3.own
    have h2 := h.at3.row
    rw [← e, hh] at h2; cases h2

theorem Filling.head (h : Filling w wB w3 F s b D S Z wr) : wr.heap[s]? = some (.cells #[.map (some b), .int .i64 (S.most : Int), .int .i64 ((S.nxt : Int) + 1), .bool false] 27 (0, 0)) :=
  (h.keep.block s (lt_of_block h.at3.head) h.sg.1).trans h.at3.head

theorem Filling.c0 (h : Filling w wB w3 F s b D S Z wr) : wr.cell? ⟨s, 0, none⟩ = some (.map (some b)) := (cell_of_row _ _ _ _ _ _ h.head).trans rfl
theorem Filling.c2 (h : Filling w wB w3 F s b D S Z wr) : wr.cell? ⟨s, 2, none⟩ = some (.int .i64 ((S.nxt : Int) + 1)) := (cell_of_row _ _ _ _ _ _ h.head).trans rfl

theorem Filling.own (h : Filling w wB w3 F s b D S Z wr) : wr.ownsMap Try.prog 3 hdrR b 1000000 (D.put (lk (S.nxt + 1)) (hd wB.heap.size 0 512)) := by
  have hlt := h.at3.own.lt
  obtain ⟨es, clock, hb, F', hs, hD⟩ := h.at3.own
  exact ⟨es, clock, (h.keep.block b hlt h.sg.2).trans hb, F', hs, hD⟩

theorem Filling.look (h : Filling w wB w3 F s b D S Z wr) (hx : S.nxt + 1 < 100000) : (Instr.lookup 25 (.map (some b)) (.int .i64 ((S.nxt : Int) + 1)) false).run Try.prog wr.drew = .ok (.slice (some ⟨wB.heap.size, 0, none⟩) 512 512) wr.drew := by
  have ho : wr.drew.ownsMap Try.prog 3 hdrR b 1000000 (D.put (lk (S.nxt + 1)) (hd wB.heap.size 0 512)) := h.own
  have hkey := lk_wf (S.nxt + 1) (by omega)
  rw [Int.natCast_add] at hkey
  obtain ⟨v, ps, hrun, hv⟩ := ho.lookup Try.lawKI Try.underlying25 (Try.zeroHdr _) hdrR_nil hkey
  have hm : IsMap D := by
    obtain ⟨es, clock, _, _, _, hD⟩ := h.at3.own
    cases D with
    | map es => exact ⟨_, rfl⟩
    | _ => simp [DataW.put] at hD
  rw [atKey_put_same hm (lk_key _)] at hv
  rw [hdrR_inv hv] at hrun
  exact hrun

theorem Filling.there (h : Filling w wB w3 F s b D S Z wr) (k : Nat) (hk : k < 512) : ∃ c, wr.cell? ⟨wB.heap.size, k, none⟩ = some c ∧ wr.frozen? ⟨wB.heap.size, k, none⟩ = false := by
  obtain ⟨l, hl, hg⟩ := h.ex
  refine ⟨.int .u8 ((l[k]'(by omega)).toNat : Int), ?_, frozen_of_row _ _ _ _ _ hg⟩
  rw [cell_of_row _ _ _ _ _ _ hg]
  simp [bcells, show k < l.length by omega]

theorem Filling.stored (h : Filling w wB w3 F s b D S Z wr) (k : Nat) : Filling w wB w3 F s b D S Z (wr.drew.setCell ⟨wB.heap.size, k, none⟩ (.int .u8 238)) := by
  obtain ⟨l, hl, hg⟩ := h.ex
  have hg' : wr.drew.heap[wB.heap.size]? = some (.cells (bcells l).toArray 5 (0, 0)) := hg
  refine ⟨h.at3, ⟨l.set k 238, by simp [hl], ?_⟩, h.keep.drew.setCell _ _ (.inl rfl)⟩
  rw [heap_setCell_at _ hg']
  congr 2
  simp [bcells, List.map_set]

theorem Filling.done (h : Filling w wB w3 F s b D S Z wr) (hS : IsSto w F s b D S) (hx : S.nxt + 1 < 100000) :
    (∃ D' l, l.length = 512 ∧ IsSto wr (grow F w wr) s b D' { S with f := S.set (S.nxt + 1) (some l), c := S.c + 1, nxt := S.nxt + 1 }) ∧ Keep F w wr := by
  obtain ⟨l, hl, hg⟩ := h.ex
  have hk : Keep (fun x => x = s ∨ x = b) w wr := h.at3.keep.trans h.keep (fun x e => .inr (by rw [e, h.at3.szB]; exact Nat.le_refl _))
  have hlts := hS.lt s hS.fs
  have hsz := h.keep.size
  have h3 := h.at3.sz3
  have hB := h.at3.szB
  have hrow : Row wr 5 1 (.slice (some ⟨wB.heap.size, 0, none⟩) 512 512) 512 (bcells l) := by
    refine ⟨by simp [bcells_length, hl], .inr ⟨_, 0, 512, _, 0, 0, rfl, hg, by omega, by simp [maxLen], by simp [bcells_length, hl], .inl (Nat.le_refl _), ?_⟩⟩
    simp only [List.drop_zero]
    exact List.take_of_length_le (by simp [bcells_length, hl])
  have hend := hS.turned (w' := wr) (F' := grow F w wr) (n := S.nxt + 1) (D' := D.put (lk (S.nxt + 1)) (hd wB.heap.size 0 512)) (l? := some l) (c := S.c + 1) (nxt := S.nxt + 1) (fun _ h => .inl h) (fun x hx => by
    rcases hx with hx | hx
    · have := hS.lt x hx; omega
    · omega) h.head h.own h.at3.size
    (fun g o c l hg hr => hr.keep hk (fun x hx e => by
      simp [Value.ownBlock] at hx
      obtain ⟨cs, f, t1⟩ := hr.type (b := g) rfl
      rcases e with e | e
      · have t2 := hS.head
        rw [← e, ← hx, t1] at t2
        simp only [Option.some.injEq, Obj.cells.injEq] at t2
        exact absurd t2.2.1 (by decide)
      · obtain ⟨es, clock, t2, _⟩ := hS.own
        rw [← e, ← hx, t1] at t2; cases t2))
    (fun j hj => ⟨has_put_other (lk_ne hj) _, atKey_put_other (lk_ne hj) _ _⟩) ⟨has_put_same hS.own.isMap (lk_key _) _, hl, wB.heap.size, 0, 512, atKey_put_same hS.own.isMap (lk_key _) _ _, hrow, .inr ⟨by omega, by omega⟩⟩ (fun _ => by omega) hx (by have := hS.cmax; omega) (by omega)
  exact ⟨⟨_, l, hl, hend⟩, hk.mono (fun x _ e => by rcases e with rfl | rfl; exact hS.fs; exact hS.fb)⟩

end

set_option maxHeartbeats 1000000 in
theorem stake_any {w : World} {F : Nat → Prop} {s b : Nat} {D : DataW Unit} {S : Sto} (h : IsSto w F s b D S) (hf : S.c < S.most) (hx : S.nxt + 1 < 100000) :
    Calls Try.prog 98 #[.pointer (some ⟨s, 0, none⟩)] w fun e w' => e = .returned (.tuple #[.int .i64 ((S.nxt + 1 : Nat) : Int), .nilIface]) ∧ (∃ D' l, l.length = 512 ∧ IsSto w' (grow F w w') s b D' { S with f := S.set (S.nxt + 1) (some l), c := S.c + 1, nxt := S.nxt + 1 }) ∧ Keep F w w' := by
  have c0 := h.cell 0
  have c1 := h.cell 1
  have c2 := h.cell 2
  have f2 := h.free 2
  simp only [List.getElem?_toArray, List.getElem?_cons_zero, List.getElem?_cons_succ] at c0 c1 c2
  have HS := Lib.hid h
  have HZ := Lib.hid h.size
  have hlen : ∀ nn ty, (Builtin.len_ #[25] ty #[.map (some b)]).run Try.prog (w.drewN nn) = .ok (.int .i64 (S.c : Int)) (w.drewN nn) := fun nn ty => by
    have := (HS.out.keep0 (w' := w.drewN nn) ⟨rfl, rfl, rfl, Nat.le_refl _, fun _ _ _ => rfl⟩).own.len Try.underlying25 ty
    rw [HZ.out] at this
    exact this
  have hd : decide ((S.most : Int) ≤ (S.c : Int)) = false := by rw [decide_eq_false_iff_not]; omega
  obtain ⟨i0, hi0, hz0, hz1, hz2⟩ := info_parts Try.infoB
  clear h
  go_enter Try.func98, Try.ntmps98
  obtain ⟨Z, hZ⟩ : ∃ Z, Z = madeCells #[Value.int .u8 0] 512 := ⟨_, rfl⟩
  have hmk : ∀ w, (Instr.makeSlice 71 (.int .i64 512) (.int .i64 512)).run Try.prog w = .ok (.slice (some ⟨w.heap.size, 0, none⟩) 512 512) (w.alloc (.cells Z 5)) := fun w => by
    have h := run_make (P := Try.prog) w 71 5 i0 (.int .u8 0) Try.underlying71 hi0 hz0 .i64 .i64 512 512 (by omega) (by omega) (by rw [hz2]; omega) (by omega)
    rw [h, hz1, hZ]
    rfl
  have HZC := Lib.hid hZ
  clear hZ hi0 hz0 hz1 hz2
  go_wp2
  go_quiet (fail)
  go_wp2
  have hT := HS.out.taking nq
  generalize (w.drewN nq).setCell ⟨s, 2, none⟩ (.int .i64 ((S.nxt : Int) + 1)) = wB at *
  obtain ⟨cB0, cB2, hT2⟩ := hT
  have hTZ := hT2 hx Z
  obtain ⟨w3, hrun, hW3⟩ := hTZ
  have cC0 : (wB.alloc (.cells Z 5)).cell? ⟨s, 0, none⟩ = some (.map (some b)) := hW3.c0
  have cC2 : (wB.alloc (.cells Z 5)).cell? ⟨s, 2, none⟩ = some (.int .i64 ((S.nxt : Int) + 1)) := hW3.c2
  have HW3 := Lib.hid hW3
  clear hT2 hW3 hlen
  go_region
  all_goals go_wp2
  have H0 := Lib.hid (HW3.out.begun HZC.out)
  clear hrun cC0 cC2 cB0 cB2 HZC hmk
  go_loopw [4] (fun iv wr => ∃ k : Nat, k ≤ 512 ∧ iv = .int .i64 (k : Int) ∧ Filling w wB w3 F s b D S Z wr) (fun iv _ => 512 - (intOf iv).toNat)
  case atStart => exact ⟨0, by omega, rfl, H0.out⟩
  case round =>
    obtain ⟨k, hk, rfl, hF⟩ := hrel
    have HF := Lib.hid hF
    clear hF H0
    by_cases hlt : k < 512
    · have d0 := HF.out.c0
      have d2 := HF.out.c2
      have dl := HF.out.look hx
      obtain ⟨dv, dc, df⟩ := HF.out.there k hlt
      have hst := HF.out.stored k
      have HST := Lib.hid hst
      clear hst
      generalize wB.heap.size = g at *
      go_wp2
      go_region
      all_goals go_wp2
      all_goals
        go_roundw
        case rel => exact ⟨k + 1, by omega, by go_num, HST.out⟩
        case measure => simp [intOf]; omega
    · obtain rfl : k = 512 := by omega
      have d0 := HF.out.c0
      have d2 := HF.out.c2
      have hend := HF.out.done HS.out hx
      have HEND := Lib.hid hend
      clear hend
      go_wp2
      go_ret2
      exact ⟨by simp, HEND.out⟩

end Go.Proofs.Ytejeadccpigepaa.Ino
