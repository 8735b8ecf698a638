/- DirAll answers true. -/
import Derived.Test.YtejeadccpigepaaDaT
import Derived.Test.YtejeadccpigepaaList1
namespace Go.Proofs.Ytejeadccpigepaa.Dir
open Go.RowKit Go.Maps Go.Proofs.Ytejeadccpigepaa Go.Proofs.Ytejeadccpigepaa.Ino
set_option maxRecDepth 100000

theorem step_append_row {P : Program} {w : World} {ops : Array Oper} {o : Oper} {a : Act} {K : Act → World → Prop} {Q : Exit → Act → World → Prop} {E : Prop} (hgd : o.guard = none) (s x : Operand) {t tx : TypeId}
    (ho : o.op = .call { callee := .builtin .append, args := #[s, x], argTypes := #[t, tx] })
    {e : TypeId} {i : TypeInfo} {z : Value} {size bytes : Nat} (ht : P.underlying t = some (.slice e)) (hi : P.info? e = some i) (hz : i.zero = some z)
    (hsize : i.size = size) (hby : i.bytes = bytes) (hzs : z.cells.size = size)
    {v : Value} {n : Nat} {xs : List Value} (hv : a.eval s = v) (h : Row w e size v n xs) {vx : Value} (hx : a.eval x = vx) {m : Nat} {news : List Value} (hs : Src P size tx vx m news w)
    (h63 : n + m ≤ maxLen) (hbytes : (n + m) * bytes ≤ 140737488355328)
    (hK : ∀ v' w', Row w' e size v' (n + m) (xs ++ news) → Keep (fun b => v.ownBlock = some b) w w' → (∀ b, v'.ownBlock = some b → v.ownBlock = some b ∨ (w.heap.size ≤ b ∧ b < w'.heap.size)) →
      (v' = .slice none 0 0 ↔ v = .slice none 0 0 ∧ m = 0) → K (a.put o.dst v') w') : if Region.wanted o (yielded ops a.tmps) = true then Oper.wp P o a w K Q else E := by
  have hw : Region.wanted o (yielded ops a.tmps) = true := by simp [Region.wanted, hgd]
  rw [if_pos hw]
  obtain ⟨v', w', hr, h2, h3, h4, h5⟩ := run_append_row (P := P) w o.type ht hi hz hsize hby hzs h hs h63 hbytes
  unfold Oper.wp execOp
  simp only [ho, resolve, invoke, builtin, Sem.run_bind, Sem.run_pure, Result.andThen_ok, List.map_toArray, List.map_cons, List.map_nil, hv, hx, hr]
  exact hK v' w' h2 h3 h4 h5

def odcells (ops : List (Int × Int × ByteArray)) : List Value := ops.flatMap fun x => [.int .i64 x.1, .int .i64 x.2.1, .string x.2.2]

theorem odcells_get (ops : List (Int × Int × ByteArray)) : ∀ (k : Nat) (hk : k < ops.length), (odcells ops)[k * 3]? = some (.int .i64 ops[k].1) ∧ (odcells ops)[k * 3 + 1]? = some (.int .i64 ops[k].2.1) ∧ (odcells ops)[k * 3 + 2]? = some (.string ops[k].2.2) := by
  induction ops with
  | nil => intro k hk; simp at hk
  | cons x r ih =>
    intro k hk
    cases k with
    | zero => exact ⟨rfl, rfl, rfl⟩
    | succ k =>
      have := ih k (by simpa using hk)
      have e : odcells (x :: r) = [Value.int .i64 x.1, .int .i64 x.2.1, .string x.2.2] ++ odcells r := rfl
      have g : ∀ j, (odcells (x :: r))[(k + 1) * 3 + j]? = (odcells r)[k * 3 + j]? := fun j => by
        rw [e, List.getElem?_append_right (by simp; omega)]
        congr 1
        simp; omega
      have g0 := g 0
      simp only [Nat.add_zero] at g0
      rw [g0, g 1, g 2]
      exact this

def inI64 (n : Int) : Prop := -9223372036854775808 ≤ n ∧ n ≤ 9223372036854775807

structure OdsW (w : World) (v : Value) (ops : List (Int × Int × ByteArray)) : Prop where
  seen : Seen w 3 v ops.length (odcells ops)
  fit : ∀ x ∈ ops, inI64 x.1 ∧ inI64 x.2.1

theorem cut6_any {w : World} (s : ByteArray) : Calls Try.prog 6 #[.string s, .int .i64 40] w fun e w' => ∃ t : ByteArray, e = .returned (.string t) ∧ w = w' := by
  by_cases h : 40 < s.size
  · have hd : decide (40 < (s.size : Int)) = true := by rw [decide_eq_true_eq]; omega
    have hz : (40 : Int) ≤ (s.size : Int) := by omega
    have h3 : 40 ≤ s.size := by omega
    go_enter Try.func6, Try.ntmps6
    go_wp2
    go_ret
    exact ⟨_, rfl, rfl⟩
  · have hd : decide (40 < (s.size : Int)) = false := by rw [decide_eq_false_iff_not]; omega
    go_enter Try.func6, Try.ntmps6
    go_wp2
    go_ret
    exact ⟨s, rfl, rfl⟩

/-- The law's loop. -/
structure DLp (w : World) (p s m L : Nat) (nv kv iv : Value) (wr : World) : Prop where
  ex : ∃ (k : Nat) (E : List Ent) (an ak : Option Addr) (n cn ck : Nat), k ≤ L ∧ k ≤ 80 ∧ E.length ≤ k ∧ iv = .int .i64 (k : Int) ∧ Dist E ∧ nv = .slice an n cn ∧ kv = .slice ak n ck ∧ n = E.length ∧ n ≤ cn ∧ cn ≤ maxLen ∧ n ≤ ck ∧ ck ≤ maxLen ∧ DaS w (fun _ => False) p s m E E E (.slice an n cn) (.slice ak n ck) (203 * k) wr

theorem DLp.of {w wr : World} {p s m L k : Nat} {E : List Ent} {nv kv iv : Value} (h1 : k ≤ L) (h2 : k ≤ 80) (h3 : E.length ≤ k) (h4 : iv = .int .i64 (k : Int)) (h5 : Dist E) (h : DaS w (fun _ => False) p s m E E E nv kv (203 * k) wr) : DLp w p s m L nv kv iv wr := by
  obtain ⟨a, c, rfl, g2, g3⟩ := h.names.slice
  obtain ⟨a', c', rfl, g5, g6⟩ := h.kids.slice
  exact ⟨k, E, a, a', _, c, c', h1, h2, h3, h4, h5, rfl, rfl, rfl, g2, g3, g5, g6, h⟩

/-- Behind a round's switch. -/
structure DLb (w : World) (p s m k : Nat) (nv kv : Value) (wr : World) : Prop where
  ex : ∃ (E : List Ent) (an ak : Option Addr) (n cn ck : Nat), E.length ≤ k + 1 ∧ Dist E ∧ nv = .slice an n cn ∧ kv = .slice ak n ck ∧ n = E.length ∧ n ≤ cn ∧ cn ≤ maxLen ∧ n ≤ ck ∧ ck ≤ maxLen ∧ DaS w (fun _ => False) p s m E E E (.slice an n cn) (.slice ak n ck) (203 * (k + 1)) wr

theorem DLb.of {w wr : World} {p s m k nx : Nat} {N : Nat → Prop} {E : List Ent} {nv kv : Value} (h3 : E.length ≤ k + 1) (h5 : Dist E) (h : DaS w N p s m E E E nv kv nx wr) (hx : nx ≤ 203 * (k + 1)) : DLb w p s m k nv kv wr := by
  obtain ⟨a, c, rfl, g2, g3⟩ := h.names.slice
  obtain ⟨a', c', rfl, g5, g6⟩ := h.kids.slice
  exact ⟨E, a, a', _, c, c', h3, h5, rfl, rfl, rfl, g2, g3, g5, g6, (h.sub (fun _ h => h.elim)).more hx⟩

/-- The search from the end. -/
structure DSr (w2 : World) (E : List Ent) (n : Nat) (nm : ByteArray) (av fv iv : Value) (wr : World) : Prop where
  ex : ∃ (j : Nat) (z A B : Int), j ≤ n ∧ z = (j : Int) - 1 ∧ A = (if nm.data.toList = [] then -1 else scF E nm.data.toList j) ∧ B = scF E [] j ∧ iv = .int .i64 z ∧ av = .int .i64 A ∧ fv = .int .i64 B ∧ Keep (fun _ => False) w2 wr

theorem da_start {w w1 w2 : World} {m : Nat} (K1 : Keep (fun _ => False) w w1) (h : Fl w2 (fun x => x = w1.heap.size + 1 ∨ x = w1.heap.size) (w1.heap.size + 2) (w1.heap.size + 1) (Sto.made m) 0 zero203) (k : Keep (fun _ => False) w1 w2) :
    DaS w (fun _ => False) (w1.heap.size + 2) (w1.heap.size + 1) m [] [] [] (.slice none 0 0) (.slice none 0 0) 0 w2 := by
  have hz := K1.size
  have hp : w1.heap.size + 2 < w2.heap.size := lt_of_block h.file.head
  refine ⟨⟨_, _, _, ⟨⟨h, fun e he => by simp at he, by simp [fileL, flatE]⟩, Front.fresh, by simp⟩, rfl, by simp [Sto.made], fun y hy => ⟨by omega, by omega, by simp [Value.ownBlock], by simp [Value.ownBlock], fun h => h⟩⟩, ⟨by omega, by simp [Value.ownBlock], by simp [Value.ownBlock], fun h => h⟩, by simp [partsE], Row.nil _ _ _, Row.nil _ _ _, fun b hb => by simp [Value.ownBlock] at hb, fun b hb => by simp [Value.ownBlock] at hb, fun b hb => by simp [Value.ownBlock] at hb, fun b hb => hb.elim, K1.trans k (fun _ h => h.elim)⟩

theorem ba_eq {s t : ByteArray} (e : s.data.toList = t.data.toList) : s = t := ((name_eq (a := s.data.toList) (s := s)).2 rfl).symm.trans ((name_eq (a := s.data.toList) (s := t)).2 e)

/-- What listed answers. -/
def LstC (w : World) : Prop := ∀ (w1 : World) (p s m : Nat) (E : List Ent) (nv kv : Value) (nx : Nat), Dist E → DaS w (fun _ => False) p s m E E E nv kv nx w1 → Calls Try.prog 13 #[.pointer (some ⟨p, 0, none⟩), nv, kv] w1 fun e w' => e = .returned (.bool true) ∧ Keep (fun _ => False) w1 w'

theorem lst_of {w w1 : World} {p s m : Nat} {E : List Ent} {nv kv : Value} {nx : Nat} (h : LstC w) (hd : Dist E) (h1 : DaS w (fun _ => False) p s m E E E nv kv nx w1) : Calls Try.prog 13 #[.pointer (some ⟨p, 0, none⟩), nv, kv] w1 fun e w' => e = .returned (.bool true) ∧ Keep (fun _ => False) w1 w' := h w1 p s m E nv kv nx hd h1

theorem DaS.nrow {w0 wr : World} {N : Nat → Prop} {p s most nx n : Nat} {E EN EK : List Ent} {nv kv : Value} (h : DaS w0 N p s most E EN EK nv kv nx wr) (hn : n = EN.length) : Row wr 9 1 nv n (ncells EN) := by rw [hn]; exact h.names
theorem DaS.krow {w0 wr : World} {N : Nat → Prop} {p s most nx n : Nat} {E EN EK : List Ent} {nv kv : Value} (h : DaS w0 N p s most E EN EK nv kv nx wr) (hn : n = EK.length) : Row wr 3 1 kv n (kcells EK) := by rw [hn]; exact h.kids
theorem DaS.nadd {w0 wr w' : World} {N : Nat → Prop} {p s most nx n : Nat} {E EN EK : List Ent} {nv kv v' : Value} (h : DaS w0 N p s most E EN EK nv kv nx wr) (hn : n = EN.length) (e : Ent) {t : ByteArray} (ht : (⟨e.1.toArray⟩ : ByteArray) = t) (hr : Row w' 9 1 v' (n + 1) (ncells EN ++ [.string t])) (hK : Keep (fun b => nv.ownBlock = some b) wr w')
    (hb : ∀ b, v'.ownBlock = some b → nv.ownBlock = some b ∨ (wr.heap.size ≤ b ∧ b < w'.heap.size)) : DaS w0 N p s most E (EN ++ [e]) EK v' kv nx w' := h.names_add hn e (by rw [ht]; exact hr) hK hb
theorem DaS.kadd {w0 wr w' : World} {N : Nat → Prop} {p s most nx n : Nat} {E EN EK : List Ent} {nv kv v' : Value} (h : DaS w0 N p s most E EN EK nv kv nx wr) (hn : n = EK.length) (e : Ent) (hr : Row w' 3 1 v' (n + 1) (kcells EK ++ [.int .i64 (e.2 : Int)])) (hK : Keep (fun b => kv.ownBlock = some b) wr w')
    (hb : ∀ b, v'.ownBlock = some b → kv.ownBlock = some b ∨ (wr.heap.size ≤ b ∧ b < w'.heap.size)) : DaS w0 N p s most E EN (EK ++ [e]) nv v' nx w' := h.kids_add hn e hr hK hb
theorem ne_new {kv : Value} {B b1 : Nat} (hlt : ∀ b, kv.ownBlock = some b → b < B) (hb : B ≤ b1) : ∀ x, (Value.slice (some ⟨b1, 0, none⟩) 1 1).ownBlock = some x → ¬ kv.ownBlock = some x := fun x hx e => by
  simp [Value.ownBlock] at hx
  have := hlt x e
  omega
theorem Try.infoStr : (Try.prog.info? 9).map (fun i => (i.zero, i.size, i.bytes)) = some (some (.string ⟨#[]⟩), 1, 16) := by kernel_rfl
theorem Try.infoInt : (Try.prog.info? 3).map (fun i => (i.zero, i.size, i.bytes)) = some (some (.int .i64 0), 1, 8) := by kernel_rfl

/-- What Add came to. -/
structure DAo (w : World) (b p s m : Nat) (kd nd : Int) (t : ByteArray) (E : List Ent) (nv kv : Value) (nx : Nat) (ev : Value) (wx : World) : Prop where
  o : wx.heap[b]? = some (.cells #[.int .i64 kd, .int .i64 nd, .string t] 33 (0, 0))
  ex : (mayB t.data.toList = false ∧ ev = apiErr 5 ∧ DaS w (fun y => y = b) p s m E E E nv kv nx wx) ∨
    (mayB t.data.toList = true ∧ ¬ (0 < nd ∧ nd < 32) ∧ ev = apiErr 1 ∧ DaS w (fun y => y = b) p s m E E E nv kv nx wx) ∨
    (mayB t.data.toList = true ∧ (0 < nd ∧ nd < 32) ∧ (∃ q, plc E t.data.toList = some q) ∧ ev = apiErr 7 ∧ DaS w (fun y => y = b) p s m E E E nv kv nx wx) ∨
    (mayB t.data.toList = true ∧ (0 < nd ∧ nd < 32) ∧ plc E t.data.toList = none ∧ partsE (putE E (slotOf E) (t.data.toList, nd.toNat)).length ≤ m ∧ ev = .nilIface ∧ DaS w (fun y => y = b) p s m (putE E (slotOf E) (t.data.toList, nd.toNat)) E E nv kv (nx + 203) wx) ∨
    (mayB t.data.toList = true ∧ (0 < nd ∧ nd < 32) ∧ plc E t.data.toList = none ∧ m < partsE (putE E (slotOf E) (t.data.toList, nd.toNat)).length ∧ ∃ r lo, ev = .iface 127 (.pointer (some ⟨r, 0, none⟩)) ∧ ErrAt wx lo r ∧ DaS w (fun y => y = b) p s m E E E nv kv (nx + 203) wx)

theorem dao_any {w wr : World} {b p s m : Nat} {kd nd : Int} {t : ByteArray} {E : List Ent} {nv kv : Value} {nx : Nat} (h : DaS w (fun y => y = b) p s m E E E nv kv nx wr) (hx : nx + 203 < 100000) (hE : E.length ≤ 100) (ho : wr.heap[b]? = some (.cells #[.int .i64 kd, .int .i64 nd, .string t] 33 (0, 0))) :
    Calls Try.prog 8 #[.pointer (some ⟨p, 0, none⟩), .string t, .int .i64 nd] wr fun e w' => ∃ ev, e = .returned ev ∧ DAo w b p s m kd nd t E nv kv nx ev w' := by
  cases hm : mayB t.data.toList with
  | false =>
    refine (add_may p t nd hm).mono ?_
    rintro e w' ⟨rfl, rfl⟩
    exact ⟨_, rfl, ho, .inl ⟨hm, rfl, h⟩⟩
  | true =>
    by_cases hk : 0 < nd ∧ nd < 32
    · cases hq : plc E t.data.toList with
      | some q =>
        refine (da_add_exists h t nd hm hk hq).mono ?_
        rintro e w' ⟨rfl, h1, h2⟩
        exact ⟨_, rfl, (h2 b rfl).trans ho, .inr (.inr (.inl ⟨hm, hk, ⟨q, hq⟩, rfl, h1⟩))⟩
      | none =>
        have hn : ((nd.toNat : Nat) : Int) = nd := by omega
        have hc := da_add h hx hE t nd.toNat hm (by omega) (by omega) hq
        rw [hn] at hc
        refine hc.mono ?_
        intro x w' hp
        have hb := (hp.stay b rfl).trans ho
        rcases hp.ex with ⟨a1, rfl, a3⟩ | ⟨a1, r, lo, rfl, a3, a4⟩
        · exact ⟨_, rfl, hb, .inr (.inr (.inr (.inl ⟨hm, hk, hq, a1, rfl, a3⟩)))⟩
        · exact ⟨_, rfl, hb, .inr (.inr (.inr (.inr ⟨hm, hk, hq, a1, r, lo, rfl, a4, a3⟩)))⟩
    · refine (add_range p t nd hm hk).mono ?_
      rintro e w' ⟨rfl, rfl⟩
      exact ⟨_, rfl, ho, .inr (.inl ⟨hm, hk, rfl, h⟩)⟩

def fullB (Fz : Int) (n m : Nat) : Bool := decide (Fz < 0) && decide (n % 16 = 0) && decide (m ≤ n / 16)

theorem full_iff {E : List Ent} {m : Nat} {e : Ent} (h : plc E [] = none) (hf : partsE E.length ≤ m) : m < partsE (putE E (slotOf E) e).length ↔ E.length % 16 = 0 ∧ m ≤ E.length / 16 := by
  have hs : slotOf E = E.length := by unfold slotOf; rw [h]
  rw [hs, putE_length, if_neg (Nat.lt_irrefl _)]
  unfold partsE at *
  omega

theorem not_full {E : List Ent} {m f : Nat} {e : Ent} (h : plc E [] = some f) (hf : partsE E.length ≤ m) : ¬ m < partsE (putE E (slotOf E) e).length := by
  have hs : slotOf E = f := by unfold slotOf; rw [h]
  rw [hs, putE_length, if_pos (plc_lt h)]
  omega

/-- What at is. -/
theorem at_none {E : List Ent} (hok : ∀ e ∈ E, okE e) {t : ByteArray} {A : Int} (hA : A = if t.data.toList = [] then -1 else plcI (plc E t.data.toList)) (h : mayB t.data.toList = false ∨ plc E t.data.toList = none) : A = -1 := by
  rw [hA]
  by_cases h0 : t.data.toList = []
  · rw [if_pos h0]
  · rw [if_neg h0]
    have : plc E t.data.toList = none := by
      rcases h with h | h
      · exact plc_mayB hok h0 h
      · exact h
    rw [this]; rfl

theorem mayB_ne {l : List UInt8} (h : mayB l = true) : l ≠ [] := by
  rintro rfl
  exact absurd h (by decide)

theorem at_some {E : List Ent} {t : ByteArray} {A : Int} (hA : A = if t.data.toList = [] then -1 else plcI (plc E t.data.toList)) (hm : mayB t.data.toList = true) {q : Nat} (h : plc E t.data.toList = some q) : A = (q : Int) := by
  rw [hA, if_neg (mayB_ne hm), h]; rfl

def outM (m0 : Int) : Bool := decide (m0 < 1) || decide (6 < m0)

set_option maxHeartbeats 8000000 in
theorem dirAll_any {w : World} (m0 : Int) {v : Value} {ops : List (Int × Int × ByteArray)} (h : OdsW w v ops) (hls : LstC w) :
    Calls Try.prog 3 #[.int .i64 m0, v] w fun e w' => e = .returned (.bool true) ∧ Keep (fun _ => False) w w' := by
  have hmm := @run_makeMap Try.prog
  obtain ⟨iS, hS0, hS1, hS2, hS3⟩ := info_parts Try.infoStr
  obtain ⟨iI, hI0, hI1, hI2, hI3⟩ := info_parts Try.infoInt
  have HS0 := Lib.hid hS0; have HS1 := Lib.hid hS1; have HS2' := Lib.hid hS2; have HS3 := Lib.hid hS3
  have HI0 := Lib.hid hI0; have HI1 := Lib.hid hI1; have HI2 := Lib.hid hI2; have HI3 := Lib.hid hI3
  clear hS0 hS1 hS2 hS3 hI0 hI1 hI2 hI3
  have HO := Lib.hid h; have HLS := Lib.hid hls
  obtain ⟨a, L, capv, hl1, rfl, hc1, hc2⟩ : ∃ a L capv, ops.length = L ∧ v = .slice a L capv ∧ L ≤ capv ∧ capv ≤ maxLen := by
    obtain ⟨_, a, cap, h1, h2, h3, _⟩ := h.seen
    exact ⟨a, ops.length, cap, rfl, h1, h2, h3⟩
  have HL := Lib.hid hl1
  unfold maxLen at hc2
  clear h hl1 hls
  obtain ⟨m, hm1, hm6, hm2⟩ : ∃ m : Nat, 1 ≤ m ∧ m ≤ 6 ∧ (m : Int) = (if outM m0 = true then 3 else m0) := by
    by_cases hc : 1 ≤ m0 ∧ m0 ≤ 6
    · exact ⟨m0.toNat, by omega, by omega, by rw [if_neg (by simp [outM]; omega)]; omega⟩
    · exact ⟨3, by omega, by omega, by rw [if_pos (by simp [outM]; omega)]; rfl⟩
  have HM2 := Lib.hid hm2
  clear hm2
  go_enter Try.func3, Try.ntmps3
  go_upto_region 4 with (go_at_call 4; (with_reducible refine begun6_any.mono ?_); rintro e w1 ⟨rfl, k1⟩; have K1 := Lib.hid k1; clear k1)
  go_cut [29] from 24 to 29 (fun b wx => b = .bool (outM m0) ∧ wx = w1)
  case first =>
    by_cases g1 : m0 < 1
    · go_wp2
      go_meet
      exact ⟨by simp [outM]; omega, rfl⟩
    · by_cases g2 : 6 < m0
      · go_wp2
        go_meet
        exact ⟨by simp [outM]; omega, rfl⟩
      · go_wp2
        go_meet
        exact ⟨by simp [outM]; omega, rfl⟩
  case rest =>
  obtain ⟨rfl, rfl⟩ := hcut
  go_upto_if 29 with (fail)
  go_cut [0] from 24 to 29 (fun s wx => s = .int .i64 (m : Int) ∧ wx = wc)
  case first =>
    cases ho : outM m0 with
    | true =>
      have e := HM2.out
      rw [if_pos ho] at e
      have HE := Lib.hid e
      clear e ho
      go_wp2
      go_meet
      exact ⟨by rw [HE.out], rfl⟩
    | false =>
      have e := HM2.out
      rw [if_neg (by simp [ho])] at e
      have HE := Lib.hid e
      clear e ho
      go_wp2
      go_meet
      exact ⟨by rw [HE.out], rfl⟩
  case rest =>
  obtain ⟨rfl, rfl⟩ := hcut
  have HS := Lib.hid (fresh_sto wc m m rfl (by omega))
  have S0 : Hid (((wc.alloc (.map #[] 0)).alloc (.cells #[.map (some wc.heap.size), .int .i64 (m : Int), .int .i64 0, .bool false] 27)).heap.size = wc.heap.size + 2) := Lib.hid (by simp)
  have KS : Hid (Keep (fun _ => False) wc ((wc.alloc (.map #[] 0)).alloc (.cells #[.map (some wc.heap.size), .int .i64 (m : Int), .int .i64 0, .bool false] 27))) := Lib.hid (((Keep.refl _ wc).alloc _).alloc _)
  clear HM2
  go_wp2_with fail
  refine (fl_new HS.out rfl).mono ?_
  rintro e w2 ⟨rfl, h2, k2⟩
  rw [S0.out] at h2 ⊢
  have H0 : Hid (DLp w (wc.heap.size + 2) (wc.heap.size + 1) m L (.slice none 0 0) (.slice none 0 0) (.int .i64 0) w2) := Lib.hid (DLp.of (k := 0) (E := []) (by omega) (by omega) (by simp) rfl Dist.nil (da_start K1.out h2 (KS.out.trans k2 (fun _ h => h.elim))))
  clear h2 k2 HS KS S0 K1
  generalize wc.heap.size + 2 = p at *
  generalize wc.heap.size + 1 = s at *
  go_wp2_with fail
  go_loopw [8, 9, 10] (fun nv kv iv wr => DLp w p s m L nv kv iv wr) (fun _ _ iv _ => L - (intOf iv).toNat)
  case atStart => exact H0.out
  case round =>
    obtain ⟨k, E, an, ak, n, cn, ck, hkL, hk80, hEk, rfl, hdi, rfl, rfl, hn, hcn1, hcn2, hck1, hck2, hD⟩ := hrel.ex
    clear hrel H0
    have HD := Lib.hid hD; have HDI := Lib.hid hdi
    unfold maxLen at hcn2 hck2
    have hn80 : n ≤ 80 := by omega
    have hnk : n ≤ k := by omega
    have HN := Lib.hid hn
    clear hD hdi hn hEk
    by_cases t1 : k < L
    · by_cases t2 : k < 80
      · obtain ⟨go, oo, rfl, hgo, hcell⟩ : ∃ go oo, a = some ⟨go, oo, none⟩ ∧ go < w.heap.size ∧ ∀ j u, (odcells ops)[j]? = some u → w.cell? ⟨go, oo + j, none⟩ = some u := by
          obtain ⟨_, a', cap', e, _, _, h4⟩ := HO.out.seen
          simp only [Value.slice.injEq] at e
          rcases h4 with h4 | ⟨go, oo, ea, h5, h6⟩
          · have := HL.out; omega
          · exact ⟨go, oo, by rw [e.1, ea], h5, h6⟩
        have hkL2 : k < ops.length := by rw [HL.out]; exact t1
        obtain ⟨q0, q1, q2⟩ := odcells_get ops k hkL2
        have c0 : wr.cell? ⟨go, oo + k * 3, none⟩ = some (.int .i64 (ops[k]).1) := by rw [HD.out.keep.cell hgo (fun h => h)]; exact hcell _ _ q0
        have c1 : wr.cell? ⟨go, oo + k * 3 + 1, none⟩ = some (.int .i64 (ops[k]).2.1) := by rw [HD.out.keep.cell hgo (fun h => h), Nat.add_assoc]; exact hcell _ _ q1
        have c2 : wr.cell? ⟨go, oo + k * 3 + 2, none⟩ = some (.string (ops[k]).2.2) := by rw [HD.out.keep.cell hgo (fun h => h), Nat.add_assoc]; exact hcell _ _ q2
        obtain ⟨f0, f1⟩ := HO.out.fit _ (List.getElem_mem hkL2)
        have F0 := Lib.hid f0; have F1 := Lib.hid f1
        clear hcell q0 q1 q2 f0 f1
        generalize (ops[k]).1 = kd at *
        generalize (ops[k]).2.1 = nd at *
        generalize (ops[k]).2.2 = st at *
        go_upto_block 2 with (go_at_call 6; (with_reducible refine (cut6_any st).mono ?_); rintro e w' ⟨t, rfl, rfl⟩)
        have HF3 : Hid (DaS w (fun y => y = wr.heap.size) p s m E E E (.slice an n cn) (.slice ak n ck) (203 * k) (wr.alloc (.cells #[.int .i64 kd, .int .i64 nd, .string t] 33))) := Lib.hid (HD.out.box _)
        have HB : Hid ((wr.alloc (.cells #[.int .i64 kd, .int .i64 nd, .string t] 33)).heap[wr.heap.size]? = some (.cells #[.int .i64 kd, .int .i64 nd, .string t] 33 (0, 0))) := Lib.hid (heap_alloc_new wr _)
        clear HD c0 c1 c2
        generalize (wr.alloc (.cells #[.int .i64 kd, .int .i64 nd, .string t] 33)) = w2 at *
        generalize wr.heap.size = b at *
        obtain ⟨A, hA⟩ : ∃ A : Int, A = if t.data.toList = [] then -1 else plcI (plc E t.data.toList) := ⟨_, rfl⟩
        obtain ⟨Fz, hFz⟩ : ∃ A : Int, A = plcI (plc E []) := ⟨_, rfl⟩
        have HA := Lib.hid hA; have HFZ := Lib.hid hFz
        clear hA hFz
        go_cut [12, 13, 14] from 58 to 80 (fun av fv _ wx => av = .int .i64 A ∧ fv = .int .i64 Fz ∧ Keep (fun _ => False) w2 wx)
        case first =>
          as_aux_lemma =>
          go_wp2_with fail
          go_loopw [12, 13, 14] (fun av fv iv wr => DSr w2 E n t av fv iv wr) (fun _ _ iv _ => (intOf iv + 1).toNat)
          case atStart => exact ⟨n, _, _, _, Nat.le_refl _, rfl, by rw [HN.out, scF_end]; simp, by rw [HN.out, scF_end], rfl, rfl, rfl, Keep.refl _ _⟩
          case round =>
            obtain ⟨j, z, A1, B1, hj, hz, hA1, hB1, rfl, rfl, rfl, hK⟩ := hrel.ex
            have HA1 := Lib.hid hA1; have HB1 := Lib.hid hB1; have HK := Lib.hid hK
            clear hrel hA1 hB1 hK
            cases j with
            | zero =>
              obtain rfl : z = -1 := by omega
              clear hz hj
              go_wp2_with fail
              go_meet
              exact ⟨by rw [HA1.out, HA.out, scF_zero], by rw [HB1.out, HFZ.out, scF_zero], HK.out⟩
            | succ j =>
              obtain rfl : z = (j : Int) := by omega
              clear hz
              have hjn : j < n := by omega
              have hjE : j < E.length := by rw [← HN.out]; exact hjn
              have hr : Row w2 9 1 (.slice an n cn) n (ncells E) := by have := HF3.out.names; rw [← HN.out] at this; exact this
              obtain ⟨g0, o0, _, hv0, -, -⟩ := hr.full (by omega)
              simp only [Value.slice.injEq] at hv0
              obtain ⟨had, -, -⟩ := hv0
              subst had
              have hg0 : g0 < w2.heap.size := hr.lt (k := g0) rfl
              have c0 := (HK.out.cell hg0 (fun h => h) _).trans ((hr.cellAt j (by omega)).trans (ncells_get hjE))
              have c1 : wr.cell? ⟨b, 2, none⟩ = some (.string t) := (HK.out.cell (lt_of_block HB.out) (fun h => h) _).trans (by rw [cell_of_row _ _ _ _ _ _ HB.out]; rfl)
              obtain ⟨s2, hs2⟩ : ∃ s2 : ByteArray, s2 = ⟨E[j].1.toArray⟩ := ⟨_, rfl⟩
              rw [← hs2] at c0
              have HS2 : Hid (E[j].1 = s2.data.toList) := Lib.hid (name_eq.1 hs2.symm)
              clear hs2 hr hg0 hj
              by_cases he : s2 = t
              · by_cases h0 : s2.data.toList = []
                · have H1 : Hid (scF E [] j = (j : Int)) := Lib.hid (scF_hit E hjE (HS2.out.trans h0))
                  have H5 : Hid (A1 = -1) := Lib.hid (by rw [HA1.out, ← he, if_pos h0])
                  have e0 : s2 = ⟨#[]⟩ := by rw [← name_eq.2 h0.symm]
                  have he' : t = ⟨#[]⟩ := he.symm.trans e0
                  subst e0 he'
                  clear he h0
                  go_wp2_with fail
                  go_region
                  all_goals
                    go_wp2_with fail
                    go_roundw
                    case rel => exact ⟨j, _, _, _, by omega, rfl, by rw [H5.out]; exact (if_pos rfl).symm, H1.out.symm, rfl, rfl, rfl, HK.out.drew⟩
                    case measure => simp [intOf] <;> omega
                · have H0 := Lib.hid h0
                  have H1 : Hid (scF E [] j = scF E [] (j + 1)) := Lib.hid (scF_miss E hjE (fun e => h0 (HS2.out.symm.trans e)))
                  have H2 : Hid (scF E s2.data.toList j = (j : Int)) := Lib.hid (scF_hit E hjE HS2.out)
                  have e0 : s2.toList.isEmpty = false := by rw [ByteArray.toList_eq]; simpa using h0
                  subst he
                  clear h0
                  go_wp2_with fail
                  go_region
                  all_goals
                    go_wp2_with fail
                    go_roundw
                    case rel => exact ⟨j, _, _, _, by omega, rfl, by rw [if_neg H0.out]; exact H2.out.symm, by rw [HB1.out]; exact H1.out.symm, rfl, rfl, rfl, HK.out.drew⟩
                    case measure => simp [intOf] <;> omega
              · have hne : (s2.toList == t.toList) = false := by
                  rw [beq_eq_false_iff_ne]
                  intro e
                  rw [ByteArray.toList_eq, ByteArray.toList_eq] at e
                  exact he (ba_eq e)
                have H3 : Hid (scF E t.data.toList j = scF E t.data.toList (j + 1)) := Lib.hid (scF_miss E hjE (fun e => he (ba_eq (HS2.out.symm.trans e))))
                by_cases h0 : s2.data.toList = []
                · have H1 : Hid (scF E [] j = (j : Int)) := Lib.hid (scF_hit E hjE (HS2.out.trans h0))
                  have e0 : s2.toList.isEmpty = true := by rw [ByteArray.toList_eq]; simpa using h0
                  clear h0 he
                  go_wp2_with fail
                  go_region
                  all_goals
                    go_wp2_with fail
                    go_roundw
                    case rel => exact ⟨j, _, _, _, by omega, rfl, by rw [HA1.out, H3.out], H1.out.symm, rfl, rfl, rfl, HK.out.drew⟩
                    case measure => simp [intOf] <;> omega
                · have H1 : Hid (scF E [] j = scF E [] (j + 1)) := Lib.hid (scF_miss E hjE (fun e => h0 (HS2.out.symm.trans e)))
                  have e0 : s2.toList.isEmpty = false := by rw [ByteArray.toList_eq]; simpa using h0
                  clear h0 he
                  go_wp2_with fail
                  go_region
                  all_goals
                    go_wp2_with fail
                    go_roundw
                    case rel => exact ⟨j, _, _, _, by omega, rfl, by rw [HA1.out, H3.out], by rw [HB1.out]; exact H1.out.symm, rfl, rfl, rfl, HK.out.drew⟩
                    case measure => simp [intOf] <;> omega
        case rest =>
        obtain ⟨rfl, rfl, hK⟩ := hcut
        have HF4 : Hid (DaS w (fun y => y = b) p s m E E E (.slice an n cn) (.slice ak n ck) (203 * k) wc) := Lib.hid (HF3.out.go hK)
        have HB4 : Hid (wc.heap[b]? = some (.cells #[.int .i64 kd, .int .i64 nd, .string t] 33 (0, 0))) := Lib.hid ((HF3.out.stay hK b rfl).trans HB.out)
        have c0 : wc.cell? ⟨b, 0, none⟩ = some (.int .i64 kd) := by rw [cell_of_row _ _ _ _ _ _ HB4.out]; rfl
        have c1 : wc.cell? ⟨b, 1, none⟩ = some (.int .i64 nd) := by rw [cell_of_row _ _ _ _ _ _ HB4.out]; rfl
        have c2 : wc.cell? ⟨b, 2, none⟩ = some (.string t) := by rw [cell_of_row _ _ _ _ _ _ HB4.out]; rfl
        clear hK HF3 HB
        obtain ⟨my, hmy⟩ : ∃ my, my = mayB t.data.toList := ⟨_, rfl⟩
        have HMY := Lib.hid hmy
        have HMC : Hid (∀ w : World, Calls Try.prog 7 #[.string t] w fun e w' => e = .returned (.bool my) ∧ w = w') := Lib.hid (fun w => by rw [hmy]; exact refMay_any t)
        clear hmy
        go_upto_block 4 with (go_at_call 7; (with_reducible refine (HMC.out _).mono ?_); rintro e w' ⟨rfl, rfl⟩)
        go_cut [8, 9, 16, 17, 18, 19, 20] from 86 to 247 (fun nv kv _ _ _ _ _ wx => DLb w p s m k nv kv wx)
        case first =>
          have HOK := Lib.hid (da_ok HF4.out)
          have HFEW0 := Lib.hid HF4.out.few
          have HEL : Hid (E.length ≤ 80) := Lib.hid (by rw [← HN.out]; exact hn80)
          by_cases hk0 : kd = 0
          · subst hk0
            as_aux_lemma =>
            obtain ⟨fb, hfb⟩ : ∃ fb, fb = fullB Fz n m := ⟨_, rfl⟩
            have HFB := Lib.hid hfb
            have HAD := Lib.hid (dao_any HF4.out (by omega) (by have := HEL.out; omega) HB4.out)
            clear hfb
            go_upto_region 29 with (fail)
            go_cut [16] from 130 to 135 (fun ev wx => DAo w b p s m 0 nd t E (.slice an n cn) (.slice ak n ck) (203 * k) ev wx)
            case first =>
              go_wp2_with (go_at_call 8; (with_reducible refine HAD.out.mono ?_); rintro e w5 ⟨ev, rfl, h5⟩; have H5 := Lib.hid h5; clear h5)
              go_meet
              exact H5.out
            case rest =>
            have H5 := Lib.hid hcut
            clear hcut HAD HF4 HB4 c0 c1 c2
            go_upto_region 30 with (fail)
            go_cut [17] from 136 to 150 (fun fv wx => fv = .bool fb ∧ wx = wc)
            case first =>
              by_cases g1 : Fz < 0
              · by_cases g2 : n % 16 = 0
                · have g2' : (n : Int) % 16 = 0 := by omega
                  by_cases g3 : m ≤ n / 16
                  · have g3' : (m : Int) ≤ (n : Int) / 16 := by omega
                    have e : Hid (fb = true) := Lib.hid (by rw [HFB.out]; simp [fullB, g1, g2, g3])
                    go_wp2
                    go_meet
                    exact ⟨by rw [e.out], rfl⟩
                  · have g3' : ¬ (m : Int) ≤ (n : Int) / 16 := by omega
                    have e : Hid (fb = false) := Lib.hid (by rw [HFB.out]; simp [fullB]; omega)
                    go_wp2
                    go_meet
                    exact ⟨by rw [e.out], rfl⟩
                · have g2' : ((n : Int) % 16 == 0) = false := by rw [beq_eq_false_iff_ne]; omega
                  have e : Hid (fb = false) := Lib.hid (by rw [HFB.out]; simp [fullB, g2])
                  go_wp2
                  go_meet
                  exact ⟨by rw [e.out], rfl⟩
              · have e : Hid (fb = false) := Lib.hid (by rw [HFB.out]; simp [fullB, g1])
                go_wp2
                go_meet
                exact ⟨by rw [e.out], rfl⟩
            case rest =>
            obtain ⟨rfl, rfl⟩ := hcut
            have HB5 := Lib.hid H5.out.o
            have c0 : wc.cell? ⟨b, 0, none⟩ = some (.int .i64 0) := by rw [cell_of_row _ _ _ _ _ _ HB5.out]; rfl
            have c1 : wc.cell? ⟨b, 1, none⟩ = some (.int .i64 nd) := by rw [cell_of_row _ _ _ _ _ _ HB5.out]; rfl
            have c2 : wc.cell? ⟨b, 2, none⟩ = some (.string t) := by rw [cell_of_row _ _ _ _ _ _ HB5.out]; rfl
            rcases H5.out.ex with ⟨hm, rfl, hd5⟩ | ⟨hm, hr, rfl, hd5⟩ | ⟨hm, hr, ⟨q, hq⟩, rfl, hd5⟩ | ⟨hm, hr, hq, hp, rfl, hd5⟩ | ⟨hm, hr, hq, hp, r, lo, rfl, he, hd5⟩
            · as_aux_lemma =>
              have HD5 := Lib.hid hd5
              obtain rfl : my = false := HMY.out.trans hm
              clear hd5 H5 c0 c1 c2 hm
              go_wp2_with (go_at_call 9; refine (isF_same 5 (by rfl)).mono ?_; rintro e w' ⟨rfl, rfl⟩)
              go_meet
              exact DLb.of (by have := HN.out; omega) HDI.out HD5.out (by omega)
            · as_aux_lemma =>
              have HD5 := Lib.hid hd5
              obtain rfl : my = true := HMY.out.trans hm
              clear hm
              have hnr : decide (nd < 1) = true ∨ (decide (nd < 1) = false ∧ decide (31 < nd) = true) := by simp; omega
              clear hd5 H5 hr
              rcases hnr with e1 | ⟨e1, e2⟩
              · go_wp2_with (go_at_call 9; refine (isF_same 1 (by rfl)).mono ?_; rintro e w' ⟨rfl, rfl⟩)
                go_meet
                exact DLb.of (by have := HN.out; omega) HDI.out HD5.out (by omega)
              · go_wp2_with (go_at_call 9; refine (isF_same 1 (by rfl)).mono ?_; rintro e w' ⟨rfl, rfl⟩)
                go_meet
                exact DLb.of (by have := HN.out; omega) HDI.out HD5.out (by omega)
            · as_aux_lemma =>
              have HD5 := Lib.hid hd5
              have e1 : decide (nd < 1) = false := by simp; omega
              have e2 : decide (31 < nd) = false := by simp; omega
              obtain rfl : my = true := HMY.out.trans hm
              obtain rfl : A = (q : Int) := at_some HA.out hm hq
              clear hm
              have e3 : (0 : Int) ≤ (q : Int) := by omega
              clear hd5 H5 hr hq
              go_wp2_with (go_at_call 9; refine (isF_same 7 (by rfl)).mono ?_; rintro e w' ⟨rfl, rfl⟩)
              go_meet
              exact DLb.of (by have := HN.out; omega) HDI.out HD5.out (by omega)
            · as_aux_lemma =>
              have e1 : decide (nd < 1) = false := by simp; omega
              have e2 : decide (31 < nd) = false := by simp; omega
              obtain rfl : my = true := HMY.out.trans hm
              obtain rfl : A = -1 := at_none HOK.out HA.out (.inr hq)
              clear hm
              obtain ⟨z, rfl⟩ : ∃ z : Nat, nd = (z : Int) := ⟨nd.toNat, by omega⟩
              rw [Int.toNat_natCast] at hp hd5
              have HQ := Lib.hid hq
              have hdi2 : Dist (putE E (slotOf E) (t.data.toList, z)) := HDI.out.put (slotOf_le E) (.inr hq)
              have HDI2 := Lib.hid hdi2
              have HFEW : Hid (partsE E.length ≤ m) := Lib.hid HFEW0.out
              have HT : Hid ((⟨t.data.toList.toArray⟩ : ByteArray) = t) := Lib.hid (name_eq.2 rfl)
              clear hq hr H5 hdi2
              cases hf : plc E [] with
              | some f =>
                as_aux_lemma =>
                obtain rfl : Fz = (f : Int) := by rw [HFZ.out, hf]; rfl
                obtain rfl : fb = false := by
                  rw [HFB.out, fullB, decide_eq_false (by omega)]; rfl
                have hfE : f < E.length := plc_lt hf
                have hfn : f < n := by rw [HN.out]; exact hfE
                have hpe : putE E (slotOf E) (t.data.toList, z) = E.set f (t.data.toList, z) := by
                  have hs : slotOf E = f := by unfold slotOf; rw [hf]
                  rw [hs]; unfold putE; rw [if_pos hfE]
                rw [hpe] at hd5 HDI2
                have HD5 := Lib.hid hd5
                obtain ⟨g1, o1, _, hv1, -, -⟩ := hd5.names.full (by omega)
                simp only [Value.slice.injEq] at hv1
                obtain ⟨had, -, -⟩ := hv1
                subst had
                obtain ⟨g2, o2, _, hv2, -, -⟩ := hd5.kids.full (by omega)
                simp only [Value.slice.injEq] at hv2
                obtain ⟨had, -, -⟩ := hv2
                subst had
                have hrn : Row wc 9 1 (.slice (some ⟨g1, o1, none⟩) n cn) n (ncells E) := by have := hd5.names; rw [← HN.out] at this; exact this
                have hrk : Row wc 3 1 (.slice (some ⟨g2, o2, none⟩) n ck) n (kcells E) := by have := hd5.kids; rw [← HN.out] at this; exact this
                obtain ⟨d1, d2⟩ := hrn.there f (by omega)
                obtain ⟨d3, d4⟩ := hrk.there f (by omega)
                obtain ⟨v1, d1⟩ := Option.isSome_iff_exists.1 d1
                obtain ⟨v2, d3⟩ := Option.isSome_iff_exists.1 d3
                have n12 : g1 ≠ g2 := fun e => hd5.apart g1 rfl (by rw [e]; rfl)
                have n21 : g2 ≠ g1 := fun e => n12 e.symm
                have nb1 : g1 ≠ b := (hd5.nnew g1 rfl).2
                have nb2 : g2 ≠ b := (hd5.knew g2 rfl).2
                have nb3 : b ≠ g1 := fun e => nb1 e.symm
                have nb4 : b ≠ g2 := fun e => nb2 e.symm
                have HW1 : Hid (DaS w (fun y => y = b) p s m (E.set f (t.data.toList, z)) (E.set f (t.data.toList, z)) (E.set f (t.data.toList, z)) (.slice (some ⟨g1, o1, none⟩) n cn) (.slice (some ⟨g2, o2, none⟩) n ck) (203 * k + 203) ((wc.setCell ⟨g1, o1 + f, none⟩ (.string t)).setCell ⟨g2, o2 + f, none⟩ (.int .i64 (z : Int)))) := Lib.hid (by
                  have h1 := (hd5.names_set HN.out f (t.data.toList, z)).kids_set HN.out f (t.data.toList, z)
                  rw [HT.out] at h1
                  exact h1)
                have HW2 : Hid (DaS w (fun y => y = b) p s m (E.set f (t.data.toList, z)) (E.set f (t.data.toList, z)) (E.set f (t.data.toList, z)) (.slice (some ⟨g1, o1, none⟩) n cn) (.slice (some ⟨g2, o2, none⟩) n ck) (203 * k + 203) ((wc.setCell ⟨g2, o2 + f, none⟩ (.int .i64 (z : Int))).setCell ⟨g1, o1 + f, none⟩ (.string t))) := Lib.hid (by
                  have h1 := (hd5.kids_set HN.out f (t.data.toList, z)).names_set HN.out f (t.data.toList, z)
                  rw [HT.out] at h1
                  exact h1)
                have HLN : Hid ((E.set f (t.data.toList, z)).length ≤ k + 1) := Lib.hid (by rw [List.length_set]; have := HN.out; omega)
                clear hf hp hd5 hpe hrn hrk hfE
                go_wp2_with fail
                go_region
                all_goals
                  go_wp2_with fail
                  go_meet
                  first | exact DLb.of HLN.out HDI2.out HW1.out.drew (by omega) | exact DLb.of HLN.out HDI2.out HW2.out.drew (by omega) | exact DLb.of HLN.out HDI2.out HW1.out (by omega) | exact DLb.of HLN.out HDI2.out HW2.out (by omega)
              | none =>
                as_aux_lemma =>
                obtain rfl : Fz = -1 := by rw [HFZ.out, hf]; rfl
                obtain rfl : fb = false := by
                  have h1 := mt (full_iff (e := (t.data.toList, z)) hf HFEW.out).2 (by omega)
                  rw [← HN.out] at h1
                  rw [HFB.out, fullB]
                  by_cases g2 : n % 16 = 0
                  · rw [decide_eq_false (p := m ≤ n / 16) (fun h => h1 ⟨g2, h⟩), Bool.and_false]
                  · rw [decide_eq_false g2, Bool.and_false, Bool.false_and]
                have hpe : putE E (slotOf E) (t.data.toList, z) = E ++ [(t.data.toList, z)] := by
                  have hs : slotOf E = E.length := by unfold slotOf; rw [hf]
                  rw [hs]; unfold putE; rw [if_neg (Nat.lt_irrefl _)]
                rw [hpe] at hd5 HDI2
                have HD5 := Lib.hid hd5
                have HNEn : Hid (∀ b1, wc.heap.size ≤ b1 → ∀ x, (Value.slice (some ⟨b1, 0, none⟩) 1 1).ownBlock = some x → ¬ (Value.slice an n cn).ownBlock = some x) := Lib.hid (fun b1 hb => ne_new (fun b hb => hd5.names.lt hb) hb)
                have HNEk : Hid (∀ b1, wc.heap.size ≤ b1 → ∀ x, (Value.slice (some ⟨b1, 0, none⟩) 1 1).ownBlock = some x → ¬ (Value.slice ak n ck).ownBlock = some x) := Lib.hid (fun b1 hb => ne_new (fun b hb => hd5.kids.lt hb) hb)
                have hbl : b < wc.heap.size := World.block_lt_of_cell? _ _ c1
                have HNBn : Hid (¬ (Value.slice an n cn).ownBlock = some b) := Lib.hid (fun e => (hd5.nnew b e).2 rfl)
                have HNBk : Hid (¬ (Value.slice ak n ck).ownBlock = some b) := Lib.hid (fun e => (hd5.knew b e).2 rfl)
                have HLN : Hid ((E ++ [(t.data.toList, z)]).length ≤ k + 1) := Lib.hid (by rw [List.length_append]; have := HN.out; simp only [List.length_singleton]; omega)
                clear hf hp hd5 hpe
                go_wp2_with fail
                go_region_law (first | (refine step_append_row rfl (.tmp 151) (.tmp 154) rfl Try.underlying30 HS0.out HS1.out HS2'.out HS3.out rfl (by simp [go_sem]) (DaS.nrow ((HD5.out.al (.cells #[Value.string t] 9)).drew) HN.out) (by simp [go_sem]) (((Row.made (w := wc) #[Value.string t] (wc.heap.size) 1 (by simp) (by simp [maxLen]) rfl).drew).src Try.underlying30 (by simp [Value.oneCell'])) (by unfold maxLen; omega) (by omega) ?_; intro v1 u1 r1 k1 n1 _; have HNa := Lib.hid (DaS.nadd ((HD5.out.al (.cells #[Value.string t] 9)).drew) HN.out (t.data.toList, z) ((name_eq (a := t.data.toList) (s := t)).2 rfl) r1 k1 n1); have KNa := Lib.hid k1; have g1e := ((((Keep.refl (fun _ => False) wc).alloc (.cells #[Value.string t] 9)).drew).cell (World.block_lt_of_cell? _ _ c1) (fun h => h) 1).trans c1; have g1f := (k1.cell (World.block_lt_of_cell? _ _ g1e) HNBn.out 1).trans g1e; clear r1 k1 n1) | (refine step_append_row rfl (.tmp 151) (.tmp 154) rfl Try.underlying30 HS0.out HS1.out HS2'.out HS3.out rfl (by simp [go_sem]) (DaS.nrow (((HD5.out.al (.cells #[Value.string t] 9)).al (.cells #[Value.int .i64 (z : Int)] 3)).drew) HN.out) (by simp [go_sem]) ((((Row.made (w := wc) #[Value.string t] (wc.heap.size) 1 (by simp) (by simp [maxLen]) rfl).alloc (.cells #[Value.int .i64 (z : Int)] 3)).drew).src Try.underlying30 (by simp [Value.oneCell'])) (by unfold maxLen; omega) (by omega) ?_; intro v1 u1 r1 k1 n1 _; have HNa := Lib.hid (DaS.nadd (((HD5.out.al (.cells #[Value.string t] 9)).al (.cells #[Value.int .i64 (z : Int)] 3)).drew) HN.out (t.data.toList, z) ((name_eq (a := t.data.toList) (s := t)).2 rfl) r1 k1 n1); have KNa := Lib.hid k1; clear r1 k1 n1) | (refine step_append_row rfl (.tmp 151) (.tmp 154) rfl Try.underlying30 HS0.out HS1.out HS2'.out HS3.out rfl (by simp [go_sem]) (DaS.nrow (((HD5.out.al (.cells #[Value.int .i64 (z : Int)] 3)).al (.cells #[Value.string t] 9)).drew) HN.out) (by simp [go_sem]) (((Row.made (w := (wc.alloc (.cells #[Value.int .i64 (z : Int)] 3))) #[Value.string t] (wc.heap.size + 1) 1 (by simp) (by simp [maxLen]) rfl).drew).src Try.underlying30 (by simp [Value.oneCell'])) (by unfold maxLen; omega) (by omega) ?_; intro v1 u1 r1 k1 n1 _; have HNa := Lib.hid (DaS.nadd (((HD5.out.al (.cells #[Value.int .i64 (z : Int)] 3)).al (.cells #[Value.string t] 9)).drew) HN.out (t.data.toList, z) ((name_eq (a := t.data.toList) (s := t)).2 rfl) r1 k1 n1); have KNa := Lib.hid k1; clear r1 k1 n1) | (refine step_append_row rfl (.tmp 151) (.tmp 154) rfl Try.underlying30 HS0.out HS1.out HS2'.out HS3.out rfl (by simp [go_sem]) (DaS.nrow HKa.out HN.out) (by simp [go_sem]) (((((Row.made (w := wc) #[Value.string t] (wc.heap.size) 1 (by simp) (by simp [maxLen]) rfl).alloc (.cells #[Value.int .i64 (z : Int)] 3)).drew).keep KKa.out (HNEk.out _ (by simp))).src Try.underlying30 (by simp [Value.oneCell'])) (by unfold maxLen; omega) (by omega) ?_; intro v1 u1 r1 k1 n1 _; have HNa := Lib.hid (DaS.nadd HKa.out HN.out (t.data.toList, z) ((name_eq (a := t.data.toList) (s := t)).2 rfl) r1 k1 n1); have KNa := Lib.hid k1; clear r1 k1 n1) | (refine step_append_row rfl (.tmp 151) (.tmp 154) rfl Try.underlying30 HS0.out HS1.out HS2'.out HS3.out rfl (by simp [go_sem]) (DaS.nrow HKa.out HN.out) (by simp [go_sem]) ((((Row.made (w := (wc.alloc (.cells #[Value.int .i64 (z : Int)] 3))) #[Value.string t] (wc.heap.size + 1) 1 (by simp) (by simp [maxLen]) rfl).drew).keep KKa.out (HNEk.out _ (by simp))).src Try.underlying30 (by simp [Value.oneCell'])) (by unfold maxLen; omega) (by omega) ?_; intro v1 u1 r1 k1 n1 _; have HNa := Lib.hid (DaS.nadd HKa.out HN.out (t.data.toList, z) ((name_eq (a := t.data.toList) (s := t)).2 rfl) r1 k1 n1); have KNa := Lib.hid k1; clear r1 k1 n1) | (refine step_append_row rfl (.tmp 151) (.tmp 154) rfl Try.underlying30 HS0.out HS1.out HS2'.out HS3.out rfl (by simp [go_sem]) (DaS.nrow (HKa.out.al (.cells #[Value.string t] 9)) HN.out) (by simp [go_sem]) ((Row.made (w := u2) #[Value.string t] (u2.heap.size) 1 (by simp) (by simp [maxLen]) rfl).src Try.underlying30 (by simp [Value.oneCell'])) (by unfold maxLen; omega) (by omega) ?_; intro v1 u1 r1 k1 n1 _; have HNa := Lib.hid (DaS.nadd (HKa.out.al (.cells #[Value.string t] 9)) HN.out (t.data.toList, z) ((name_eq (a := t.data.toList) (s := t)).2 rfl) r1 k1 n1); have KNa := Lib.hid k1; clear r1 k1 n1) | (refine step_append_row rfl (.tmp 156) (.tmp 159) rfl Try.underlying31 HI0.out HI1.out HI2.out HI3.out rfl (by simp [go_sem]) (DaS.krow ((HD5.out.al (.cells #[Value.int .i64 (z : Int)] 3)).drew) HN.out) (by simp [go_sem]) (((Row.made (w := wc) #[Value.int .i64 (z : Int)] (wc.heap.size) 1 (by simp) (by simp [maxLen]) rfl).drew).src Try.underlying31 (by simp [Value.oneCell'])) (by unfold maxLen; omega) (by omega) ?_; intro v2 u2 r2 k2 n2 _; have HKa := Lib.hid (DaS.kadd ((HD5.out.al (.cells #[Value.int .i64 (z : Int)] 3)).drew) HN.out (t.data.toList, z) r2 k2 n2); have KKa := Lib.hid k2; have g2e := ((((Keep.refl (fun _ => False) wc).alloc (.cells #[Value.int .i64 (z : Int)] 3)).drew).cell (World.block_lt_of_cell? _ _ c2) (fun h => h) 2).trans c2; have g2f := (k2.cell (World.block_lt_of_cell? _ _ g2e) HNBk.out 2).trans g2e; clear r2 k2 n2) | (refine step_append_row rfl (.tmp 156) (.tmp 159) rfl Try.underlying31 HI0.out HI1.out HI2.out HI3.out rfl (by simp [go_sem]) (DaS.krow (((HD5.out.al (.cells #[Value.int .i64 (z : Int)] 3)).al (.cells #[Value.string t] 9)).drew) HN.out) (by simp [go_sem]) ((((Row.made (w := wc) #[Value.int .i64 (z : Int)] (wc.heap.size) 1 (by simp) (by simp [maxLen]) rfl).alloc (.cells #[Value.string t] 9)).drew).src Try.underlying31 (by simp [Value.oneCell'])) (by unfold maxLen; omega) (by omega) ?_; intro v2 u2 r2 k2 n2 _; have HKa := Lib.hid (DaS.kadd (((HD5.out.al (.cells #[Value.int .i64 (z : Int)] 3)).al (.cells #[Value.string t] 9)).drew) HN.out (t.data.toList, z) r2 k2 n2); have KKa := Lib.hid k2; clear r2 k2 n2) | (refine step_append_row rfl (.tmp 156) (.tmp 159) rfl Try.underlying31 HI0.out HI1.out HI2.out HI3.out rfl (by simp [go_sem]) (DaS.krow (((HD5.out.al (.cells #[Value.string t] 9)).al (.cells #[Value.int .i64 (z : Int)] 3)).drew) HN.out) (by simp [go_sem]) (((Row.made (w := (wc.alloc (.cells #[Value.string t] 9))) #[Value.int .i64 (z : Int)] (wc.heap.size + 1) 1 (by simp) (by simp [maxLen]) rfl).drew).src Try.underlying31 (by simp [Value.oneCell'])) (by unfold maxLen; omega) (by omega) ?_; intro v2 u2 r2 k2 n2 _; have HKa := Lib.hid (DaS.kadd (((HD5.out.al (.cells #[Value.string t] 9)).al (.cells #[Value.int .i64 (z : Int)] 3)).drew) HN.out (t.data.toList, z) r2 k2 n2); have KKa := Lib.hid k2; clear r2 k2 n2) | (refine step_append_row rfl (.tmp 156) (.tmp 159) rfl Try.underlying31 HI0.out HI1.out HI2.out HI3.out rfl (by simp [go_sem]) (DaS.krow HNa.out HN.out) (by simp [go_sem]) (((((Row.made (w := wc) #[Value.int .i64 (z : Int)] (wc.heap.size) 1 (by simp) (by simp [maxLen]) rfl).alloc (.cells #[Value.string t] 9)).drew).keep KNa.out (HNEn.out _ (by simp))).src Try.underlying31 (by simp [Value.oneCell'])) (by unfold maxLen; omega) (by omega) ?_; intro v2 u2 r2 k2 n2 _; have HKa := Lib.hid (DaS.kadd HNa.out HN.out (t.data.toList, z) r2 k2 n2); have KKa := Lib.hid k2; clear r2 k2 n2) | (refine step_append_row rfl (.tmp 156) (.tmp 159) rfl Try.underlying31 HI0.out HI1.out HI2.out HI3.out rfl (by simp [go_sem]) (DaS.krow HNa.out HN.out) (by simp [go_sem]) ((((Row.made (w := (wc.alloc (.cells #[Value.string t] 9))) #[Value.int .i64 (z : Int)] (wc.heap.size + 1) 1 (by simp) (by simp [maxLen]) rfl).drew).keep KNa.out (HNEn.out _ (by simp))).src Try.underlying31 (by simp [Value.oneCell'])) (by unfold maxLen; omega) (by omega) ?_; intro v2 u2 r2 k2 n2 _; have HKa := Lib.hid (DaS.kadd HNa.out HN.out (t.data.toList, z) r2 k2 n2); have KKa := Lib.hid k2; clear r2 k2 n2) | (refine step_append_row rfl (.tmp 156) (.tmp 159) rfl Try.underlying31 HI0.out HI1.out HI2.out HI3.out rfl (by simp [go_sem]) (DaS.krow (HNa.out.al (.cells #[Value.int .i64 (z : Int)] 3)) HN.out) (by simp [go_sem]) ((Row.made (w := u1) #[Value.int .i64 (z : Int)] (u1.heap.size) 1 (by simp) (by simp [maxLen]) rfl).src Try.underlying31 (by simp [Value.oneCell'])) (by unfold maxLen; omega) (by omega) ?_; intro v2 u2 r2 k2 n2 _; have HKa := Lib.hid (DaS.kadd (HNa.out.al (.cells #[Value.int .i64 (z : Int)] 3)) HN.out (t.data.toList, z) r2 k2 n2); have KKa := Lib.hid k2; clear r2 k2 n2))
                all_goals
                  go_wp2_with fail
                  go_meet
                  first | exact DLb.of HLN.out HDI2.out HNa.out (by omega) | exact DLb.of HLN.out HDI2.out HKa.out (by omega)
            · as_aux_lemma =>
              have HD5 := Lib.hid hd5
              have e1 : decide (nd < 1) = false := by simp; omega
              have e2 : decide (31 < nd) = false := by simp; omega
              obtain rfl : my = true := HMY.out.trans hm
              obtain rfl : A = -1 := at_none HOK.out HA.out (.inr hq)
              clear hm
              obtain rfl : fb = true := by
                rw [HFB.out]
                cases hf : plc E [] with
                | some f => exact absurd hp (not_full hf hd5.few)
                | none =>
                  have h1 := (full_iff hf hd5.few).1 hp
                  have h2 : Fz = -1 := by rw [HFZ.out, hf]; rfl
                  rw [← HN.out] at h1
                  simp [fullB, h2, h1.1, h1.2]
              have HE := Lib.hid he
              clear hd5 H5 hr hq hp he
              go_wp2_with (go_at_call 9; (with_reducible refine (isF_take HE.out).mono ?_); rintro e w' ⟨rfl, rfl⟩)
              go_meet
              exact DLb.of (by have := HN.out; omega) HDI.out HD5.out (by omega)
          · by_cases hk1 : kd = 1
            · subst hk1
              cases hm : mayB t.data.toList with
              | false =>
                as_aux_lemma =>
                obtain rfl : my = false := HMY.out.trans hm
                obtain rfl : A = -1 := at_none HOK.out HA.out (.inl hm)
                have HC := Lib.hid (fun w : World => remove_may (w := w) p t hm)
                clear hm
                go_wp2_with (first | (go_at_call 10; (with_reducible refine (HC.out _).mono ?_); rintro e w' ⟨rfl, rfl⟩) | (go_at_call 9; refine (isF_same 5 (by rfl)).mono ?_; rintro e w' ⟨rfl, rfl⟩))
                go_meet
                exact DLb.of (by have := HN.out; omega) HDI.out HF4.out (by omega)
              | true =>
                cases hq : plc E t.data.toList with
                | none =>
                  as_aux_lemma =>
                  obtain rfl : my = true := HMY.out.trans hm
                  obtain rfl : A = -1 := at_none HOK.out HA.out (.inr hq)
                  have HC := Lib.hid (da_rem_none HF4.out t hm hq)
                  clear hm hq
                  go_wp2_with (first | (go_at_call 10; (with_reducible refine HC.out.mono ?_); rintro e w5 ⟨rfl, h5, h6⟩; have H5 := Lib.hid h5; clear h5 h6) | (go_at_call 9; refine (isF_same 6 (by rfl)).mono ?_; rintro e w' ⟨rfl, rfl⟩))
                  go_meet
                  exact DLb.of (by have := HN.out; omega) HDI.out H5.out (by omega)
                | some q =>
                  as_aux_lemma =>
                  obtain rfl : my = true := HMY.out.trans hm
                  obtain rfl : A = (q : Int) := at_some HA.out hm hq
                  have HC := Lib.hid (da_rem HF4.out (by omega) t hm hq)
                  have hqE := plc_lt hq
                  have hqn : q < n := by rw [HN.out]; exact hqE
                  have hdi2 : Dist (E.set q ([], 0)) := by
                    have h1 := HDI.out.put (i := q) (e := ([], 0)) (by omega) (.inl rfl)
                    unfold putE at h1
                    rw [if_pos hqE] at h1
                    exact h1
                  have HDI2 := Lib.hid hdi2
                  have hq0 : (0 : Int) ≤ (q : Int) := by omega
                  clear hm hq hdi2 hqE
                  go_wp2_with (first | (go_at_call 10; (with_reducible refine HC.out.mono ?_); rintro e w5 ⟨rfl, h5, h6⟩; have H5 := Lib.hid h5; clear h5 h6; obtain ⟨g1, o1, _, hv1, -, -⟩ := H5.out.names.full (by have := HN.out; omega); simp only [Value.slice.injEq] at hv1; obtain ⟨had, -, -⟩ := hv1; subst had; obtain ⟨g2, o2, _, hv2, -, -⟩ := H5.out.kids.full (by have := HN.out; omega); simp only [Value.slice.injEq] at hv2; obtain ⟨had, -, -⟩ := hv2; subst had; obtain ⟨d1, d2⟩ := (H5.out.nrow HN.out).there q (by omega); obtain ⟨d3, d4⟩ := (H5.out.krow HN.out).there q (by omega); obtain ⟨v1, d1⟩ := Option.isSome_iff_exists.1 d1; obtain ⟨v2, d3⟩ := Option.isSome_iff_exists.1 d3; have n12 : g1 ≠ g2 := fun e => H5.out.apart g1 rfl (by rw [e]; rfl); have n21 : g2 ≠ g1 := fun e => n12 e.symm))
                  go_meet
                  exact DLb.of (by rw [List.length_set]; have := HN.out; omega) HDI2.out ((H5.out.names_set HN.out q ([], 0)).kids_set HN.out q ([], 0)) (by omega)
            · cases hm : mayB t.data.toList with
              | false =>
                as_aux_lemma =>
                obtain rfl : my = false := HMY.out.trans hm
                obtain rfl : A = -1 := at_none HOK.out HA.out (.inl hm)
                have HC := Lib.hid (fun w : World => find_may (w := w) p t hm)
                clear hm
                go_wp2_with (first | (go_at_call 11; (with_reducible refine (HC.out _).mono ?_); rintro e w' ⟨rfl, rfl⟩) | (go_at_call 9; refine (isF_same 5 (by rfl)).mono ?_; rintro e w' ⟨rfl, rfl⟩))
                go_meet
                exact DLb.of (by have := HN.out; omega) HDI.out HF4.out (by omega)
              | true =>
                cases hq : plc E t.data.toList with
                | none =>
                  as_aux_lemma =>
                  obtain rfl : my = true := HMY.out.trans hm
                  obtain rfl : A = -1 := at_none HOK.out HA.out (.inr hq)
                  have HC := Lib.hid (da_find_none HF4.out t hm hq)
                  clear hm hq
                  go_wp2_with (first | (go_at_call 11; (with_reducible refine HC.out.mono ?_); rintro e w5 ⟨rfl, h5, h6⟩; have H5 := Lib.hid h5; clear h5 h6) | (go_at_call 9; refine (isF_same 6 (by rfl)).mono ?_; rintro e w' ⟨rfl, rfl⟩))
                  go_meet
                  exact DLb.of (by have := HN.out; omega) HDI.out H5.out (by omega)
                | some q =>
                  as_aux_lemma =>
                  obtain rfl : my = true := HMY.out.trans hm
                  obtain rfl : A = (q : Int) := at_some HA.out hm hq
                  have hqE := plc_lt hq
                  obtain ⟨y, hy⟩ : ∃ y : Int, y = (E[q].2 : Int) := ⟨_, rfl⟩
                  have HY := Lib.hid hy
                  have HC := Lib.hid (da_find HF4.out t hm hq ⟨hqE, hy⟩)
                  have hqn : q < n := by rw [HN.out]; exact hqE
                  have hq0 : (0 : Int) ≤ (q : Int) := by omega
                  have hyy : (y != y) = false := by simp
                  clear hm hq hy
                  go_wp2_with (first | (go_at_call 11; (with_reducible refine HC.out.mono ?_); rintro e w5 ⟨rfl, h5, h6⟩; have H5 := Lib.hid h5; clear h5 h6; obtain ⟨g2, o2, _, hv2, -, -⟩ := H5.out.kids.full (by have := HN.out; omega); simp only [Value.slice.injEq] at hv2; obtain ⟨had, -, -⟩ := hv2; subst had; have d3 := ((H5.out.krow HN.out).cellAt q (by omega)).trans (kcells_get hqE); rw [← HY.out] at d3))
                  go_meet
                  exact DLb.of (by have := HN.out; omega) HDI.out H5.out (by omega)
        case rest =>
        obtain ⟨E', an', ak', n', cn', ck', hl', hd', rfl, rfl, hn', q1, q2, q3, q4, hD'⟩ := hcut.ex
        have HD' := Lib.hid hD'; have HDI' := Lib.hid hd'
        have HSZ := Lib.hid (da_size hD')
        have hz : (((32 * E'.length : Nat) : Int) != 32 * (n' : Int)) = false := by rw [hn']; simp
        have hn81 : n' ≤ 81 := by omega
        have HL' : Hid (E'.length ≤ k + 1) := Lib.hid hl'
        clear hcut hD' hd' hl' hn' c0 c1 c2 HF4 HB4
        go_wp2_with (go_at_call 12; (with_reducible refine HSZ.out.mono ?_); rintro e w' ⟨rfl, rfl⟩)
        go_roundw
        case rel => exact DLp.of (k := k + 1) (by omega) (by omega) HL'.out (by go_num) HDI'.out HD'.out
        case measure => simp [intOf] <;> omega
      · have HLC := Lib.hid (lst_of HLS.out HDI.out HD.out)
        go_wp2_with (go_at_call 13; (with_reducible refine HLC.out.mono ?_); rintro e w' ⟨rfl, k9⟩; have K9 := Lib.hid k9; clear k9)
        go_ret
        exact ⟨rfl, HD.out.keep.trans K9.out (fun _ h => h.elim)⟩
    · have HLC := Lib.hid (lst_of HLS.out HDI.out HD.out)
      go_wp2_with (go_at_call 13; (with_reducible refine HLC.out.mono ?_); rintro e w' ⟨rfl, k9⟩; have K9 := Lib.hid k9; clear k9)
      go_ret
      exact ⟨rfl, HD.out.keep.trans K9.out (fun _ h => h.elim)⟩

end Go.Proofs.Ytejeadccpigepaa.Dir
