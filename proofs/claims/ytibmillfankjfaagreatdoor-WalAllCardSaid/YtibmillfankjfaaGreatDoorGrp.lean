/- Groups of sectors as maps from numbers to sectors: what a look-up, a store, len, homes (the keys, rising) say of one. -/
import Derived.Test.YtibmillfankjfaaGreatDoorSec
import Derived.Test.YtibmillfankjfaaGreatDoorLay
import Derived.Maps.OwnSet
import Derived.Maps.Ext
namespace Go.Proofs.YtibmillfankjfaaGreatDoor
open Go.RowKit Go.Maps
set_option maxRecDepth 100000

/-- A group: sectors by their numbers, rising. -/
abbrev Grp := List (Nat × ByteArray)

def secD (s : ByteArray) : DataW Unit := .lit (.string s.data.toList)
def gEs (g : Grp) : List (Lit × DataW Unit) := g.map fun x => (Lit.int .i64 (x.1 : Int), secD x.2)
def gD (g : Grp) : DataW Unit := .map (gEs g)

def unbyte : Value → Option UInt8
  | .int .u8 n => if 0 ≤ n ∧ n < 256 then some (UInt8.ofNat n.toNat) else none
  | _ => none

/-- How a sector reads as a map's element. -/
def secR (v : Value) : Option (DataW Unit × List MemPlace) :=
  match v with
  | .agg cs => match cs.toList.mapM unbyte with
    | some l => if l.length = 512 then some (.lit (.string l), []) else none
    | none => none
  | _ => none

theorem unbyte_mk (b : UInt8) : unbyte (.int .u8 (b.toNat : Int)) = some b := by
  have := b.toNat_lt
  have h : (0 : Int) ≤ (b.toNat : Int) ∧ (b.toNat : Int) < 256 := by omega
  simp only [unbyte, if_pos h, Int.toNat_natCast, UInt8.ofNat_toNat]

theorem unbyte_all : ∀ l : List UInt8, (l.map fun b => Value.int .u8 (b.toNat : Int)).mapM unbyte = some l
  | [] => rfl
  | b :: l => by simp [List.mapM_cons, unbyte_mk, unbyte_all l]

theorem secR_mk (s : ByteArray) (hs : s.size = 512) : secR (secV s) = some (secD s, []) := by
  have h : (secC s).toList.mapM unbyte = some s.data.toList := by
    simp only [secC, byteCells]
    exact unbyte_all _
  have hl : s.data.toList.length = 512 := by rw [Array.length_toList]; exact hs
  simp only [secR, secV, h, hl, if_true, secD]

theorem unbyte_inv {v : Value} {b : UInt8} (h : unbyte v = some b) : v = .int .u8 (b.toNat : Int) := by
  unfold unbyte at h
  split at h
  · split at h
    · rename_i n hn
      simp only [Option.some.injEq] at h
      subst h
      have : ((UInt8.ofNat n.toNat).toNat : Int) = n := by rw [UInt8.toNat_ofNat']; omega
      rw [this]
    · cases h
  · cases h

theorem unbyte_all_inv : ∀ (vs : List Value) (l : List UInt8), vs.mapM unbyte = some l → vs = l.map fun b => Value.int .u8 (b.toNat : Int)
  | [], l, h => by simp at h; subst h; rfl
  | v :: vs, l, h => by
    simp only [List.mapM_cons, Option.bind_eq_bind, Option.bind_eq_some_iff, Option.pure_def, Option.some.injEq] at h
    obtain ⟨b, hb, l', hl', rfl⟩ := h
    rw [unbyte_inv hb, unbyte_all_inv vs l' hl']
    rfl

theorem secR_inv {v : Value} {z : DataW Unit × List MemPlace} (h : secR v = some z) : ∃ s : ByteArray, s.size = 512 ∧ v = secV s ∧ z = (secD s, []) := by
  unfold secR at h
  split at h
  · rename_i cs
    split at h
    · rename_i l hl
      split at h
      · rename_i h5
        simp only [Option.some.injEq] at h
        subst h
        refine ⟨⟨l.toArray⟩, by simpa [ByteArray.size] using h5, ?_, by simp [secD]⟩
        simp only [secV, secC, byteCells]
        rw [← unbyte_all_inv _ _ hl]
      · cases h
    · cases h
  · cases h

theorem secD_inj {s t : ByteArray} (h : secD s = secD t) : s = t := by
  simp only [secD, DataW.lit.injEq, Lit.string.injEq] at h
  obtain ⟨s⟩ := s
  obtain ⟨t⟩ := t
  simp only at h
  rw [Array.toList_inj.1 h]

/-! ### groups, plainly -/
def glook (g : Grp) (i : Nat) : Option ByteArray := (g.find? (fun x => x.1 == i)).map (·.2)

def gins (x : Nat × ByteArray) : Grp → Grp
  | [] => [x]
  | y :: r => if x.1 < y.1 then x :: y :: r else y :: gins x r

def gput (g : Grp) (i : Nat) (s : ByteArray) : Grp := gins (i, s) (g.filter fun x => !(x.1 == i))

def gkeys (g : Grp) : List Nat := g.map (·.1)

structure GOk (g : Grp) : Prop where
  rising : g.Pairwise fun x y => x.1 < y.1
  size : ∀ x ∈ g, x.2.size = 512
  key : ∀ x ∈ g, x.1 < 65536

theorem GOk.nil : GOk [] := ⟨List.Pairwise.nil, by simp, by simp⟩

theorem gins_mem (x : Nat × ByteArray) : ∀ (g : Grp) (z : Nat × ByteArray), z ∈ gins x g ↔ z = x ∨ z ∈ g
  | [], z => by simp [gins]
  | y :: r, z => by
    unfold gins
    split
    · simp
    · simp only [List.mem_cons, gins_mem x r z]
      constructor
      · rintro (h | h | h)
        · exact .inr (.inl h)
        · exact .inl h
        · exact .inr (.inr h)
      · rintro (h | h | h)
        · exact .inr (.inl h)
        · exact .inl h
        · exact .inr (.inr h)

theorem gput_mem (g : Grp) (i : Nat) (s : ByteArray) (z : Nat × ByteArray) : z ∈ gput g i s ↔ z = (i, s) ∨ (z ∈ g ∧ z.1 ≠ i) := by
  simp [gput, gins_mem]

theorem gins_rising (x : Nat × ByteArray) : ∀ (g : Grp), g.Pairwise (fun x y => x.1 < y.1) → (∀ y ∈ g, y.1 ≠ x.1) → (gins x g).Pairwise fun x y => x.1 < y.1
  | [], _, _ => by simp [gins]
  | y :: r, h, hn => by
    unfold gins
    obtain ⟨h1, h2⟩ := List.pairwise_cons.1 h
    split
    · rename_i hlt
      refine List.pairwise_cons.2 ⟨fun z hz => ?_, h⟩
      rcases List.mem_cons.1 hz with rfl | hz
      · exact hlt
      · exact Nat.lt_trans hlt (h1 z hz)
    · rename_i hlt
      refine List.pairwise_cons.2 ⟨fun z hz => ?_, gins_rising x r h2 (fun z hz => hn z (List.mem_cons_of_mem _ hz))⟩
      rcases (gins_mem x r z).1 hz with rfl | hz
      · have := hn y (List.mem_cons_self ..); omega
      · exact h1 z hz

theorem GOk.put {g : Grp} (h : GOk g) {i : Nat} {s : ByteArray} (hi : i < 65536) (hs : s.size = 512) : GOk (gput g i s) := by
  refine ⟨gins_rising _ _ (h.rising.filter _) (fun y hy => ?_), fun x hx => ?_, fun x hx => ?_⟩
  · simp at hy; exact hy.2
  · rcases (gput_mem g i s x).1 hx with rfl | hx
    · exact hs
    · exact h.size x hx.1
  · rcases (gput_mem g i s x).1 hx with rfl | hx
    · exact hi
    · exact h.key x hx.1

theorem glook_gins (x : Nat × ByteArray) (j : Nat) : ∀ (g : Grp), (∀ y ∈ g, y.1 ≠ x.1) → glook (gins x g) j = if x.1 = j then some x.2 else glook g j
  | [], _ => by by_cases h : x.1 = j <;> simp [gins, glook, h]
  | y :: r, hn => by
    have hy := hn y (List.mem_cons_self ..)
    have ih := glook_gins x j r (fun z hz => hn z (List.mem_cons_of_mem _ hz))
    unfold gins
    split
    · by_cases h : x.1 = j <;> simp [glook, h]
    · by_cases h : y.1 = j
      · have : ¬ x.1 = j := fun e => hy (by rw [e, h])
        simp [glook, h, this]
      · have e1 : glook (y :: gins x r) j = glook (gins x r) j := by simp [glook, h]
        have e2 : glook (y :: r) j = glook r j := by simp [glook, h]
        rw [e1, e2, ih]

theorem glook_put (g : Grp) (i : Nat) (s : ByteArray) (j : Nat) : glook (gput g i s) j = if i = j then some s else glook g j := by
  rw [gput, glook_gins (i, s) j _ (fun y hy => by simp at hy; exact hy.2)]
  by_cases h : i = j
  · simp [h]
  · simp only [h, if_false, glook]
    congr 1
    rw [List.find?_filter]
    congr 1
    funext x
    by_cases hx : x.1 = j
    · have : ¬ x.1 = i := fun e => h (by rw [← e, hx])
      simp [hx]; omega
    · simp [hx]

theorem glook_mem {g : Grp} (h : GOk g) {i : Nat} {s : ByteArray} : glook g i = some s ↔ (i, s) ∈ g := by
  have hr := h.rising
  clear h
  induction g with
  | nil => simp [glook]
  | cons y r ih =>
    obtain ⟨h1, h2⟩ := List.pairwise_cons.1 hr
    have ih := ih h2
    by_cases hy : y.1 = i
    · have e : glook (y :: r) i = some y.2 := by simp [glook, hy]
      rw [e]
      constructor
      · intro h
        simp only [Option.some.injEq] at h
        subst h; subst hy
        exact List.mem_cons_self ..
      · intro h
        rcases List.mem_cons.1 h with h | h
        · rw [← h]
        · have := h1 _ h
          simp only at this
          omega
    · have e : glook (y :: r) i = glook r i := by simp [glook, hy]
      rw [e]
      simp only [List.mem_cons]
      constructor
      · exact fun h => .inr (ih.1 h)
      · rintro (h | h)
        · exact (hy (by rw [← h])).elim
        · exact ih.2 h

theorem glook_size {g : Grp} (h : GOk g) {i : Nat} {s : ByteArray} (hs : glook g i = some s) : s.size = 512 := h.size _ ((glook_mem h).1 hs)

theorem gget_size {g : Grp} (h : GOk g) (i : Nat) : ((glook g i).getD zeroSec).size = 512 := by
  cases hl : glook g i with
  | none => exact zeroSec_size
  | some s => exact glook_size h hl

theorem gins_length (x : Nat × ByteArray) : ∀ g : Grp, (gins x g).length = g.length + 1
  | [] => rfl
  | y :: r => by
    unfold gins
    split
    · rfl
    · simp [gins_length x r]

theorem gput_le (g : Grp) (i : Nat) (s : ByteArray) : (gput g i s).length ≤ g.length + 1 := by
  rw [gput, gins_length]
  have := List.length_filter_le (fun x : Nat × ByteArray => !(x.1 == i)) g
  omega

theorem filter_key {g : Grp} (h : g.Pairwise fun x y => x.1 < y.1) (i : Nat) : (g.filter fun x => !(x.1 == i)).length + (if (glook g i).isSome then 1 else 0) = g.length := by
  induction g with
  | nil => simp [glook]
  | cons y r ih =>
    obtain ⟨h1, h2⟩ := List.pairwise_cons.1 h
    by_cases hy : y.1 = i
    · have e : glook (y :: r) i = some y.2 := by simp [glook, hy]
      have hf : r.filter (fun x => !(x.1 == i)) = r := List.filter_eq_self.2 (fun x hx => by have := h1 x hx; simp; omega)
      rw [e]
      simp [hy, hf]
    · have e : glook (y :: r) i = glook r i := by simp [glook, hy]
      have := ih h2
      rw [e]
      simp [hy]
      omega

theorem gput_length {g : Grp} (h : GOk g) (i : Nat) (s : ByteArray) : (gput g i s).length = if (glook g i).isSome then g.length else g.length + 1 := by
  rw [gput, gins_length]
  have := filter_key h.rising i
  cases hg : (glook g i).isSome <;> simp only [hg, if_true, if_false, Bool.false_eq_true] at this ⊢ <;> omega

/-! ### as data -/
theorem gEs_ins (x : Nat × ByteArray) : ∀ g : Grp, DataW.insert (Lit.int .i64 (x.1 : Int), secD x.2) (gEs g) = gEs (gins x g)
  | [] => rfl
  | y :: r => by
    have ih := gEs_ins x r
    simp only [gEs, List.map_cons, DataW.insert, Lit.before, gins] at *
    by_cases h : x.1 < y.1
    · simp [h]
    · simp [h, ih]

theorem gD_put (g : Grp) (i : Nat) (s : ByteArray) : (gD g).put (.int .i64 (i : Int)) (secD s) = gD (gput g i s) := by
  simp only [gD, DataW.put, gput]
  rw [← gEs_ins]
  congr 2
  simp only [gEs, List.filter_map]
  congr 1
  apply List.filter_congr
  intro x _
  simp only [Function.comp, Lit.sameKey]
  by_cases h : x.1 = i
  · simp [h]
  · have h' : ¬ ((x.1 : Int) = (i : Int)) := by omega
    simp [h, h']

theorem gD_find (g : Grp) (i : Nat) : (gEs g).find? (fun p => p.1.sameKey (.int .i64 (i : Int))) = (glook g i).map fun s => (Lit.int .i64 (i : Int), secD s) := by
  induction g with
  | nil => rfl
  | cons y r ih =>
    by_cases h : y.1 = i
    · simp [gEs, glook, Lit.sameKey, h]
    · have h' : ¬ ((y.1 : Int) = (i : Int)) := by omega
      have e : glook (y :: r) i = glook r i := by simp [glook, h]
      rw [e, ← ih]
      simp [gEs, Lit.sameKey, h']

theorem gD_at (g : Grp) (i : Nat) (z : ByteArray) : (gD g).atKey (.int .i64 (i : Int)) (secD z) = secD ((glook g i).getD z) := by
  simp only [gD, DataW.atKey, gD_find]
  cases glook g i <;> rfl

theorem gD_has (g : Grp) (i : Nat) : Maps.has (gD g) (.int .i64 (i : Int)) = (glook g i).isSome := by
  have h := gD_find g i
  simp only [gD, Maps.has_eq]
  cases hg : glook g i with
  | none =>
    rw [hg] at h
    simp only [Option.map_none, List.find?_eq_none] at h
    simp only [Option.isSome_none, List.any_eq_false]
    exact h
  | some s =>
    rw [hg] at h
    simp only [Option.map_some] at h
    simp only [Option.isSome_some, List.any_eq_true]
    have h2 := List.find?_some h
    exact ⟨_, List.mem_of_find?_eq_some h, h2⟩

theorem gD_size (g : Grp) : Maps.size (gD g) = g.length := by simp [gD, Maps.size_eq, gEs]

theorem gD_keys (g : Grp) : intKeys (gD g) = (gkeys g).map fun i : Nat => (i : Int) := by
  simp only [gD, gEs, intKeys, gkeys, List.map_map]
  rfl

/-! ### in memory -/
/-- The block b is a map that holds the group g. -/
structure IsGrp (w : World) (b : Nat) (g : Grp) : Prop where
  own : w.ownsMap Tryz.prog 3 secR b g.length (gD g)
  ok : GOk g

theorem ownsMap_tight {w : World} {b n : Nat} {g : Grp} (h : w.ownsMap Tryz.prog 3 secR b n (gD g)) : w.ownsMap Tryz.prog 3 secR b g.length (gD g) := by
  obtain ⟨es, clock, hb, F, _, hD⟩ := h
  refine ⟨es, clock, hb, F, ?_, hD⟩
  have e := congrArg Maps.size hD
  rw [gD_size, Maps.size_eq, length_sorted] at e
  simp at e
  omega

theorem Tryz.lawK : Keyed Tryz.prog 3 := int_keyed Tryz.underlying3

theorem IsGrp.made (w : World) : IsGrp (w.alloc (.map #[] 0)) w.heap.size [] :=
  ⟨World.ownsMap_made w Tryz.prog 3 secR, GOk.nil⟩

theorem IsGrp.lt {w : World} {b : Nat} {g : Grp} (h : IsGrp w b g) : b < w.heap.size := h.own.lt

theorem IsGrp.keep {F : Nat → Prop} {w w' : World} {b : Nat} {g : Grp} (h : IsGrp w b g) (k : Keep F w w') (hF : ¬ F b) : IsGrp w' b g := by
  refine ⟨?_, h.ok⟩
  have hlt := h.lt
  obtain ⟨es, clock, hb, F', hs, hD⟩ := h.own
  exact ⟨es, clock, (k.block b hlt hF).trans hb, F', hs, hD⟩

theorem IsGrp.alloc {w : World} {b : Nat} {g : Grp} (h : IsGrp w b g) (o : Obj) : IsGrp (w.alloc o) b g := h.keep (F := fun _ => False) ((Keep.refl _ w).alloc o) (fun h => h)

theorem IsGrp.notCells {w : World} {b : Nat} {g : Grp} (h : IsGrp w b g) {c : Array Value} {t : TypeId} {f : Nat × Nat} : w.heap[b]? ≠ some (.cells c t f) := by
  obtain ⟨es, clock, hb, _⟩ := h.own
  rw [hb]
  intro e; cases e

theorem key_wf (i : Nat) (hi : i < 65536) : keyOf Tryz.prog 3 (.int .i64 (i : Int)) = some (.int .i64 (i : Int)) :=
  keyOf_int_mk Tryz.underlying3 (WalkArith.wf_i64 (by omega))

theorem IsGrp.look_ok {w : World} {b : Nat} {g : Grp} (h : IsGrp w b g) (i : Nat) (hi : i < 65536) :
    (Instr.lookup 57 (.map (some b)) (.int .i64 (i : Int)) true).run Tryz.prog w = .ok (.tuple #[secV ((glook g i).getD zeroSec), .bool (glook g i).isSome]) w := by
  obtain ⟨v, ps, hrun, hv⟩ := h.own.look_ok Tryz.lawK Tryz.underlying57 (Tryz.zeroSecV w) (secR_mk zeroSec zeroSec_size) (key_wf i hi)
  obtain ⟨s, _, rfl, e⟩ := secR_inv hv
  rw [gD_at] at e
  simp only [Prod.mk.injEq] at e
  rw [← secD_inj e.1] at hrun
  rw [hrun, gD_has]

theorem IsGrp.look {w : World} {b : Nat} {g : Grp} (h : IsGrp w b g) (i : Nat) (hi : i < 65536) :
    (Instr.lookup 57 (.map (some b)) (.int .i64 (i : Int)) false).run Tryz.prog w = .ok (secV ((glook g i).getD zeroSec)) w := by
  obtain ⟨v, ps, hrun, hv⟩ := h.own.lookup Tryz.lawK Tryz.underlying57 (Tryz.zeroSecV w) (secR_mk zeroSec zeroSec_size) (key_wf i hi)
  obtain ⟨s, _, rfl, e⟩ := secR_inv hv
  rw [gD_at] at e
  simp only [Prod.mk.injEq] at e
  rw [← secD_inj e.1] at hrun
  exact hrun

theorem IsGrp.len {w : World} {b : Nat} {g : Grp} (h : IsGrp w b g) (ty : TypeId) : (Builtin.len_ #[57] ty #[.map (some b)]).run Tryz.prog w = .ok (.int .i64 (g.length : Int)) w := by
  have := h.own.len Tryz.underlying57 ty
  rw [gD_size] at this
  exact this

theorem IsGrp.put {w : World} {b : Nat} {g : Grp} (h : IsGrp w b g) (i : Nat) (hi : i < 65536) (s : ByteArray) (hs : s.size = 512) (hn : g.length < 1000000) :
    ∃ w', (Instr.mapUpdate 57 (.map (some b)) (.int .i64 (i : Int)) (secV s)).run Tryz.prog w = .ok () w' ∧ IsGrp w' b (gput g i s) ∧ Keep (fun x => x = b) w w' ∧ w'.heap.size = w.heap.size := by
  obtain ⟨w', hrun, r1, r2⟩ := h.own.store Tryz.lawK Tryz.underlying57 (by unfold maxLen; omega) (key_wf i hi) (secR_mk s hs)
  rw [gD_put] at r1
  refine ⟨w', hrun, ⟨ownsMap_tight r1, h.ok.put hi hs⟩, ?_, ?_⟩
  · have := r2.grown
    exact ⟨this.os, this.tape, this.output, this.size, fun k hk hne => this.block k hk (fun e => hne (by simpa using e))⟩
  · obtain ⟨_, _, _, _, _, rfl⟩ := r2
    simp [ChangeMaps.setBlock]

section
variable {ops : Array Oper} {rest : List Oper} {o : Oper} {a : Act} {w : World} {Q : Exit → Act → World → Prop}

theorem wpList_look_ok (hg : o.guard = none) (m x : Operand) (ho : o.op = .lookup 57 m x true) (b : Nat) (g : Grp) (i : Nat) (hm : a.eval m = .map (some b)) (hx : a.eval x = .int .i64 (i : Int)) (h : IsGrp w b g) (hi : i < 65536)
    (hK : wpList Tryz.prog ops Q rest (a.put o.dst (.tuple #[secV ((glook g i).getD zeroSec), .bool (glook g i).isSome])) w) : wpList Tryz.prog ops Q (o :: rest) a w := by
  refine wpList_plain hg fun K' hK' => ?_
  unfold Oper.wp execOp
  simp only [ho, hm, hx, Sem.run_bind, h.look_ok i hi, Result.andThen_ok, Sem.run_pure]
  exact hK' _ _ hK

theorem wpList_look (hg : o.guard = none) (m x : Operand) (ho : o.op = .lookup 57 m x false) (b : Nat) (g : Grp) (i : Nat) (hm : a.eval m = .map (some b)) (hx : a.eval x = .int .i64 (i : Int)) (h : IsGrp w b g) (hi : i < 65536)
    (hK : wpList Tryz.prog ops Q rest (a.put o.dst (secV ((glook g i).getD zeroSec))) w) : wpList Tryz.prog ops Q (o :: rest) a w := by
  refine wpList_plain hg fun K' hK' => ?_
  unfold Oper.wp execOp
  simp only [ho, hm, hx, Sem.run_bind, h.look i hi, Result.andThen_ok, Sem.run_pure]
  exact hK' _ _ hK

theorem wpList_len_grp (hg : o.guard = none) (m : Operand) (ho : o.op = .call { callee := .builtin .len, args := #[m], argTypes := #[57] }) (b : Nat) (g : Grp) (hm : a.eval m = .map (some b)) (h : IsGrp w b g)
    (hK : wpList Tryz.prog ops Q rest (a.put o.dst (.int .i64 (g.length : Int))) w) : wpList Tryz.prog ops Q (o :: rest) a w := by
  refine wpList_plain hg fun K' hK' => ?_
  unfold Oper.wp
  simp [execOp, ho, resolve, invoke, builtin, hm, h.len o.type, Result.andThen]
  exact hK' _ _ hK

theorem wpList_put (hg : o.guard = none) (m x v : Operand) (ho : o.op = .mapUpdate 57 m x v) (b : Nat) (g : Grp) (i : Nat) (s : ByteArray) (hm : a.eval m = .map (some b)) (hx : a.eval x = .int .i64 (i : Int)) (hv : a.eval v = secV s)
    (h : IsGrp w b g) (hi : i < 65536) (hs : s.size = 512) (hn : g.length < 1000000)
    (hK : ∀ w', IsGrp w' b (gput g i s) → Keep (fun x => x = b) w w' → w'.heap.size = w.heap.size → wpList Tryz.prog ops Q rest (a.put o.dst undef) w') : wpList Tryz.prog ops Q (o :: rest) a w := by
  refine wpList_plain hg fun K' hK' => ?_
  obtain ⟨w', hrun, r1, r2, r3⟩ := h.put i hi s hs hn
  unfold Oper.wp execOp
  simp only [ho, hm, hx, hv, Sem.run_bind, hrun, Result.andThen_ok, Sem.run_pure]
  exact hK' _ _ (hK w' r1 r2 r3)

end

end Go.Proofs.YtibmillfankjfaaGreatDoor
