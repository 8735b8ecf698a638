/- codec: worlds and events among a law's arguments. -/
import Derived.Test.YtpefkellcigpkaaCdP
import Derived.ProofKit
import Derived.Deep.Slices
namespace Go.Proofs.Ytpefkellcigpkaa.Cd
open Go.ChangeShapes Go.WideShapes Go.ChangeAt Go.RowKit Go.Deep Go.Proofs.Ytpefkellcigpkaa
set_option maxRecDepth 100000

/-- What can be read as data of type t is a thing of the kind. -/
def TE {M : Type} (E : El M) (R : M → Prop) (t : TypeId) : Prop :=
  ∀ {H : Type} {enc : TypeId × Value → H} {W : World} {n : Nat} {cs : List Value} {y : DataW H × List MemPlace}, DataW.trod enc Try.prog W 0 (fun _ => true) true n t cs = some y → ∃ x, E.H (fun b => b < W.heap.size) W x cs ∧ R x
/-- Likewise of a list of such things. -/
def TL {M : Type} (E : El M) (R : M → Prop) (t : TypeId) : Prop :=
  ∀ {H : Type} {enc : TypeId × Value → H} {W : World} {n : Nat} {v : Value} {y : DataW H × List MemPlace}, DataW.trod enc Try.prog W 0 (fun _ => true) true n t [v] = some y → ∃ l, LAt E (fun b => b < W.heap.size) W v l ∧ ∀ x ∈ l, R x

theorem wf_ok {n : Int} (h : (Lit.int .i64 n).wf = true) : okN n := by
  simpa [okN, Lit.wf, show IntKind.i64.min = -9223372036854775808 from rfl, show IntKind.i64.max = 9223372036854775807 from rfl] using h

theorem te_int : TE eI okN 3 := by
  intro H enc W n cs y h
  obtain ⟨x, hc, _, hw⟩ := DataW.trod_int Try.underlying3 h
  exact ⟨x, hc, wf_ok hw⟩
theorem te_string : TE eS (fun _ => True) 9 := by
  intro H enc W n cs y h
  obtain ⟨x, hc, _, _⟩ := DataW.trod_string Try.underlying9 h
  exact ⟨x, hc, trivial⟩

theorem te_list {M : Type} [Inhabited M] {E : El M} {R : M → Prop} {t e : TypeId} (hE : TE E R e) (hu : Try.prog.underlying t = some (.slice e)) (hC : Try.prog.cellsOf e = E.size) (hpos : 0 < E.size) : TL E R t := by
  intro H enc W n v y h
  rcases open_slice hu h with ⟨hcs, hx⟩ | ⟨a, len, cap, m, n', D, Pl, hcs, hb, hl, hm, hmm, hx, hc⟩
  · simp only [List.cons.injEq, and_true] at hcs
    subst hcs
    exact ⟨[], LAt.nil, by simp⟩
  · simp only [List.cons.injEq, and_true] at hcs
    subst hcs
    have hlm : len ≤ m := by rw [hmm]; split <;> omega
    have hsp : 0 < len → a.spot = none := fun h0 => by
      obtain ⟨cs', h1, _⟩ := hc 0 (by omega)
      rw [hC] at h1
      obtain ⟨_, hlen, hcell⟩ := World.cells?_some h1
      have h0' := hcell 0 hpos
      rw [List.getElem?_eq_getElem (by omega)] at h0'
      have := World.cell?_spot h0'
      simpa [Addr.add] using this
    have each : ∀ i, i < len → ∃ x : M, ∃ cs, a.spot = none ∧ a.block < W.heap.size ∧ E.H (fun b => b < W.heap.size) W x cs ∧ (∀ j u, cs[j]? = some u → W.cell? (a.add (i * E.size + j)) = some u) ∧ R x := by
      intro i hi
      obtain ⟨cs', h1, h2⟩ := hc i (by omega)
      rw [hC] at h1
      obtain ⟨_, hlen, hcell⟩ := World.cells?_some h1
      obtain ⟨x, hH, hR⟩ := hE h2
      have e0 := hcell 0 hpos
      rw [List.getElem?_eq_getElem (by omega)] at e0
      have hsp1 := hsp (by omega)
      refine ⟨x, cs', hsp1, ?_, hH, fun j u hu => ?_, hR⟩
      · have := World.block_lt_of_cell? _ _ e0
        obtain ⟨g, off, spot⟩ := a
        simp only at hsp1
        subst hsp1
        rw [add_off, add_off] at this
        exact this
      · have hj : j < E.size := by
          have := (List.getElem?_eq_some_iff.1 hu).1; omega
        have := hcell j hj
        rw [add_add] at this
        rw [this]; exact hu
    obtain ⟨f, hf⟩ := choose_lt each
    refine ⟨(List.range len).map f, ⟨some a, cap, by simp, by simpa using hl, hm, ?_⟩, fun x hx => ?_⟩
    · by_cases h0 : len = 0
      · left; simp [h0]
      · obtain ⟨_, hsp, hlt, _⟩ := hf 0 (by omega)
        obtain ⟨g, off, spot⟩ := a
        simp only at hsp hlt
        subst hsp
        refine .inr ⟨g, off, rfl, hlt, hlt, fun i x hi => ?_⟩
        have hil : i < len := by have := (List.getElem?_eq_some_iff.1 hi).1; simpa using this
        obtain ⟨cs, _, _, hH, hr, _⟩ := hf i hil
        have hx : x = f i := by
          rw [List.getElem?_map, List.getElem?_range hil] at hi
          simpa using hi.symm
        subst hx
        exact ⟨cs, hH, fun j u hu => by have := hr j u hu; rw [add_off] at this; rw [Nat.add_assoc]; exact this⟩
    · obtain ⟨i, hi, rfl⟩ := List.mem_map.1 hx
      obtain ⟨_, _, _, _, _, hR⟩ := hf i (by simpa using hi)
      exact hR

theorem tl_ints : TL eI okN 42 := te_list te_int Try.underlying42 (by kernel_rfl) (by decide)
theorem tl_strings : TL eS (fun _ => True) 63 := te_list te_string Try.underlying63 (by kernel_rfl) (by decide)

def rThing (x : (Int × Int × Int × Int × ByteArray)) : Prop := okN x.1 ∧ okN x.2.1 ∧ okN x.2.2.1 ∧ okN x.2.2.2.1
set_option maxHeartbeats 1000000 in
theorem te_Thing : TE eThing rThing 61 := by
  intro H enc W n cs y h
  obtain ⟨xs, k, hk, hxy, hcl, hxl, hff⟩ := DataW.trod_struct Try.underlying61 h
  have hcn : cs.length = 5 := by rw [hcl]; kernel_rfl
  match xs, hxl, cs, hcn with
  | [y0, y1, y2, y3, y4], _, [v0, v1, v2, v3, v4], _ =>
    have g0 := hff 0 _ rfl
    have g1 := hff 1 _ rfl
    have g2 := hff 2 _ rfl
    have g3 := hff 3 _ rfl
    have g4 := hff 4 _ rfl
    have a0 : Try.prog.cellsOf 3 = 1 := by kernel_rfl
    have a1 : Try.prog.cellsOf 2 = 1 := by kernel_rfl
    have a2 : Try.prog.cellsOf 9 = 1 := by kernel_rfl
    simp [a0, a1, a2] at g0 g1 g2 g3 g4
    obtain ⟨z0, f0, _, w0⟩ := DataW.trod_int Try.underlying2 g0
    simp only [List.cons.injEq, and_true] at f0
    subst f0
    obtain ⟨z1, f1, _, w1⟩ := DataW.trod_int Try.underlying3 g1
    simp only [List.cons.injEq, and_true] at f1
    subst f1
    obtain ⟨z2, f2, _, w2⟩ := DataW.trod_int Try.underlying3 g2
    simp only [List.cons.injEq, and_true] at f2
    subst f2
    obtain ⟨z3, f3, _, w3⟩ := DataW.trod_int Try.underlying3 g3
    simp only [List.cons.injEq, and_true] at f3
    subst f3
    obtain ⟨z4, f4, _, _⟩ := DataW.trod_string Try.underlying9 g4
    simp only [List.cons.injEq, and_true] at f4
    subst f4
    exact ⟨(z0, z1, z2, z3, z4), rfl, wf_ok w0, wf_ok w1, wf_ok w2, wf_ok w3⟩
theorem tl_Thing : TL eThing rThing 23 := te_list te_Thing Try.underlying23 (by kernel_rfl) (by decide)

def rMob (x : (Int × Int × Int × Int)) : Prop := okN x.1 ∧ okN x.2.1 ∧ okN x.2.2.1 ∧ okN x.2.2.2
set_option maxHeartbeats 1000000 in
theorem te_Mob : TE eMob rMob 54 := by
  intro H enc W n cs y h
  obtain ⟨xs, k, hk, hxy, hcl, hxl, hff⟩ := DataW.trod_struct Try.underlying54 h
  have hcn : cs.length = 4 := by rw [hcl]; kernel_rfl
  match xs, hxl, cs, hcn with
  | [y0, y1, y2, y3], _, [v0, v1, v2, v3], _ =>
    have g0 := hff 0 _ rfl
    have g1 := hff 1 _ rfl
    have g2 := hff 2 _ rfl
    have g3 := hff 3 _ rfl
    have a0 : Try.prog.cellsOf 3 = 1 := by kernel_rfl
    have a1 : Try.prog.cellsOf 2 = 1 := by kernel_rfl
    simp [a0, a1] at g0 g1 g2 g3
    obtain ⟨z0, f0, _, w0⟩ := DataW.trod_int Try.underlying2 g0
    simp only [List.cons.injEq, and_true] at f0
    subst f0
    obtain ⟨z1, f1, _, w1⟩ := DataW.trod_int Try.underlying3 g1
    simp only [List.cons.injEq, and_true] at f1
    subst f1
    obtain ⟨z2, f2, _, w2⟩ := DataW.trod_int Try.underlying3 g2
    simp only [List.cons.injEq, and_true] at f2
    subst f2
    obtain ⟨z3, f3, _, w3⟩ := DataW.trod_int Try.underlying2 g3
    simp only [List.cons.injEq, and_true] at f3
    subst f3
    exact ⟨(z0, z1, z2, z3), rfl, wf_ok w0, wf_ok w1, wf_ok w2, wf_ok w3⟩
theorem tl_Mob : TL eMob rMob 24 := te_list te_Mob Try.underlying24 (by kernel_rfl) (by decide)

def rTill (x : (Int × Int)) : Prop := okN x.1 ∧ okN x.2
set_option maxHeartbeats 1000000 in
theorem te_Till : TE eTill rTill 81 := by
  intro H enc W n cs y h
  obtain ⟨xs, k, hk, hxy, hcl, hxl, hff⟩ := DataW.trod_struct Try.underlying81 h
  have hcn : cs.length = 2 := by rw [hcl]; kernel_rfl
  match xs, hxl, cs, hcn with
  | [y0, y1], _, [v0, v1], _ =>
    have g0 := hff 0 _ rfl
    have g1 := hff 1 _ rfl
    have a0 : Try.prog.cellsOf 3 = 1 := by kernel_rfl
    have a1 : Try.prog.cellsOf 2 = 1 := by kernel_rfl
    simp [a0, a1] at g0 g1
    obtain ⟨z0, f0, _, w0⟩ := DataW.trod_int Try.underlying3 g0
    simp only [List.cons.injEq, and_true] at f0
    subst f0
    obtain ⟨z1, f1, _, w1⟩ := DataW.trod_int Try.underlying2 g1
    simp only [List.cons.injEq, and_true] at f1
    subst f1
    exact ⟨(z0, z1), rfl, wf_ok w0, wf_ok w1⟩
theorem tl_Till : TL eTill rTill 27 := te_list te_Till Try.underlying27 (by kernel_rfl) (by decide)

def rLot (x : (Int × Int × ByteArray × Int × Int × ByteArray × Int)) : Prop := okN x.1 ∧ okN x.2.1 ∧ okN x.2.2.2.1 ∧ okN x.2.2.2.2.1 ∧ okN x.2.2.2.2.2.2
set_option maxHeartbeats 1000000 in
theorem te_Lot : TE eLot rLot 67 := by
  intro H enc W n cs y h
  obtain ⟨xs, k, hk, hxy, hcl, hxl, hff⟩ := DataW.trod_struct Try.underlying67 h
  have hcn : cs.length = 7 := by rw [hcl]; kernel_rfl
  match xs, hxl, cs, hcn with
  | [y0, y1, y2, y3, y4, y5, y6], _, [v0, v1, v2, v3, v4, v5, v6], _ =>
    have g0 := hff 0 _ rfl
    have g1 := hff 1 _ rfl
    have g2 := hff 2 _ rfl
    have g3 := hff 3 _ rfl
    have g4 := hff 4 _ rfl
    have g5 := hff 5 _ rfl
    have g6 := hff 6 _ rfl
    have a0 : Try.prog.cellsOf 2 = 1 := by kernel_rfl
    have a1 : Try.prog.cellsOf 9 = 1 := by kernel_rfl
    simp [a0, a1] at g0 g1 g2 g3 g4 g5 g6
    obtain ⟨z0, f0, _, w0⟩ := DataW.trod_int Try.underlying2 g0
    simp only [List.cons.injEq, and_true] at f0
    subst f0
    obtain ⟨z1, f1, _, w1⟩ := DataW.trod_int Try.underlying2 g1
    simp only [List.cons.injEq, and_true] at f1
    subst f1
    obtain ⟨z2, f2, _, _⟩ := DataW.trod_string Try.underlying9 g2
    simp only [List.cons.injEq, and_true] at f2
    subst f2
    obtain ⟨z3, f3, _, w3⟩ := DataW.trod_int Try.underlying2 g3
    simp only [List.cons.injEq, and_true] at f3
    subst f3
    obtain ⟨z4, f4, _, w4⟩ := DataW.trod_int Try.underlying2 g4
    simp only [List.cons.injEq, and_true] at f4
    subst f4
    obtain ⟨z5, f5, _, _⟩ := DataW.trod_string Try.underlying9 g5
    simp only [List.cons.injEq, and_true] at f5
    subst f5
    obtain ⟨z6, f6, _, w6⟩ := DataW.trod_int Try.underlying2 g6
    simp only [List.cons.injEq, and_true] at f6
    subst f6
    exact ⟨(z0, z1, z2, z3, z4, z5, z6), rfl, wf_ok w0, wf_ok w1, wf_ok w3, wf_ok w4, wf_ok w6⟩
theorem tl_Lot : TL eLot rLot 26 := te_list te_Lot Try.underlying26 (by kernel_rfl) (by decide)

def rHouse (x : (Int × ByteArray × List ByteArray × Int)) : Prop := okN x.1 ∧ okN x.2.2.2
set_option maxHeartbeats 1000000 in
theorem te_House : TE eHouse rHouse 65 := by
  intro H enc W n cs y h
  obtain ⟨xs, k, hk, hxy, hcl, hxl, hff⟩ := DataW.trod_struct Try.underlying65 h
  have hcn : cs.length = 4 := by rw [hcl]; kernel_rfl
  match xs, hxl, cs, hcn with
  | [y0, y1, y2, y3], _, [v0, v1, v2, v3], _ =>
    have g0 := hff 0 _ rfl
    have g1 := hff 1 _ rfl
    have g2 := hff 2 _ rfl
    have g3 := hff 3 _ rfl
    have a0 : Try.prog.cellsOf 63 = 1 := by kernel_rfl
    have a1 : Try.prog.cellsOf 3 = 1 := by kernel_rfl
    have a2 : Try.prog.cellsOf 2 = 1 := by kernel_rfl
    have a3 : Try.prog.cellsOf 9 = 1 := by kernel_rfl
    simp [a0, a1, a2, a3] at g0 g1 g2 g3
    obtain ⟨z0, f0, _, w0⟩ := DataW.trod_int Try.underlying3 g0
    simp only [List.cons.injEq, and_true] at f0
    subst f0
    obtain ⟨z1, f1, _, _⟩ := DataW.trod_string Try.underlying9 g1
    simp only [List.cons.injEq, and_true] at f1
    subst f1
    obtain ⟨z2, l2, r2⟩ := tl_strings g2
    obtain ⟨z3, f3, _, w3⟩ := DataW.trod_int Try.underlying2 g3
    simp only [List.cons.injEq, and_true] at f3
    subst f3
    exact ⟨(z0, z1, z2, z3), ⟨_, l2, rfl⟩, wf_ok w0, wf_ok w3⟩
theorem tl_House : TL eHouse rHouse 25 := te_list te_House Try.underlying25 (by kernel_rfl) (by decide)

def rChar (x : (ByteArray × ByteArray × Bool × Int × Int × Int × Int × Int × Int × List Int)) : Prop := okN x.2.2.2.1 ∧ okN x.2.2.2.2.1 ∧ okN x.2.2.2.2.2.1 ∧ okN x.2.2.2.2.2.2.1 ∧ okN x.2.2.2.2.2.2.2.1 ∧ okN x.2.2.2.2.2.2.2.2.1 ∧ (∀ d ∈ x.2.2.2.2.2.2.2.2.2, okN d)
set_option maxHeartbeats 1000000 in
theorem te_Char : TE eChar rChar 58 := by
  intro H enc W n cs y h
  obtain ⟨xs, k, hk, hxy, hcl, hxl, hff⟩ := DataW.trod_struct Try.underlying58 h
  have hcn : cs.length = 10 := by rw [hcl]; kernel_rfl
  match xs, hxl, cs, hcn with
  | [y0, y1, y2, y3, y4, y5, y6, y7, y8, y9], _, [v0, v1, v2, v3, v4, v5, v6, v7, v8, v9], _ =>
    have g0 := hff 0 _ rfl
    have g1 := hff 1 _ rfl
    have g2 := hff 2 _ rfl
    have g3 := hff 3 _ rfl
    have g4 := hff 4 _ rfl
    have g5 := hff 5 _ rfl
    have g6 := hff 6 _ rfl
    have g7 := hff 7 _ rfl
    have g8 := hff 8 _ rfl
    have g9 := hff 9 _ rfl
    have a0 : Try.prog.cellsOf 42 = 1 := by kernel_rfl
    have a1 : Try.prog.cellsOf 4 = 1 := by kernel_rfl
    have a2 : Try.prog.cellsOf 3 = 1 := by kernel_rfl
    have a3 : Try.prog.cellsOf 2 = 1 := by kernel_rfl
    have a4 : Try.prog.cellsOf 9 = 1 := by kernel_rfl
    simp [a0, a1, a2, a3, a4] at g0 g1 g2 g3 g4 g5 g6 g7 g8 g9
    obtain ⟨z0, f0, _, _⟩ := DataW.trod_string Try.underlying9 g0
    simp only [List.cons.injEq, and_true] at f0
    subst f0
    obtain ⟨z1, f1, _, _⟩ := DataW.trod_string Try.underlying9 g1
    simp only [List.cons.injEq, and_true] at f1
    subst f1
    obtain ⟨z2, f2, _⟩ := DataW.trod_bool Try.underlying4 g2
    simp only [List.cons.injEq, and_true] at f2
    subst f2
    obtain ⟨z3, f3, _, w3⟩ := DataW.trod_int Try.underlying3 g3
    simp only [List.cons.injEq, and_true] at f3
    subst f3
    obtain ⟨z4, f4, _, w4⟩ := DataW.trod_int Try.underlying2 g4
    simp only [List.cons.injEq, and_true] at f4
    subst f4
    obtain ⟨z5, f5, _, w5⟩ := DataW.trod_int Try.underlying2 g5
    simp only [List.cons.injEq, and_true] at f5
    subst f5
    obtain ⟨z6, f6, _, w6⟩ := DataW.trod_int Try.underlying2 g6
    simp only [List.cons.injEq, and_true] at f6
    subst f6
    obtain ⟨z7, f7, _, w7⟩ := DataW.trod_int Try.underlying2 g7
    simp only [List.cons.injEq, and_true] at f7
    subst f7
    obtain ⟨z8, f8, _, w8⟩ := DataW.trod_int Try.underlying2 g8
    simp only [List.cons.injEq, and_true] at f8
    subst f8
    obtain ⟨z9, l9, r9⟩ := tl_ints g9
    exact ⟨(z0, z1, z2, z3, z4, z5, z6, z7, z8, z9), ⟨_, l9, rfl⟩, wf_ok w3, wf_ok w4, wf_ok w5, wf_ok w6, wf_ok w7, wf_ok w8, r9⟩
theorem tl_Char : TL eChar rChar 22 := te_list te_Char Try.underlying22 (by kernel_rfl) (by decide)

def rWorld (x : MWorld) : Prop := okN x.1 ∧ okN x.2.1 ∧ okN x.2.2.1 ∧ (∀ d ∈ x.2.2.2.1, rChar d) ∧ (∀ d ∈ x.2.2.2.2.1, rThing d) ∧ (∀ d ∈ x.2.2.2.2.2.1, rMob d) ∧ (∀ d ∈ x.2.2.2.2.2.2.1, rHouse d) ∧ (∀ d ∈ x.2.2.2.2.2.2.2.1, rLot d) ∧ (∀ d ∈ x.2.2.2.2.2.2.2.2, rTill d)
set_option maxHeartbeats 1000000 in
theorem te_World : TE eWorld rWorld 29 := by
  intro H enc W n cs y h
  obtain ⟨xs, k, hk, hxy, hcl, hxl, hff⟩ := DataW.trod_struct Try.underlying29 h
  have hcn : cs.length = 9 := by rw [hcl]; kernel_rfl
  match xs, hxl, cs, hcn with
  | [y0, y1, y2, y3, y4, y5, y6, y7, y8], _, [v0, v1, v2, v3, v4, v5, v6, v7, v8], _ =>
    have g0 := hff 0 _ rfl
    have g1 := hff 1 _ rfl
    have g2 := hff 2 _ rfl
    have g3 := hff 3 _ rfl
    have g4 := hff 4 _ rfl
    have g5 := hff 5 _ rfl
    have g6 := hff 6 _ rfl
    have g7 := hff 7 _ rfl
    have g8 := hff 8 _ rfl
    have a0 : Try.prog.cellsOf 22 = 1 := by kernel_rfl
    have a1 : Try.prog.cellsOf 25 = 1 := by kernel_rfl
    have a2 : Try.prog.cellsOf 26 = 1 := by kernel_rfl
    have a3 : Try.prog.cellsOf 24 = 1 := by kernel_rfl
    have a4 : Try.prog.cellsOf 23 = 1 := by kernel_rfl
    have a5 : Try.prog.cellsOf 27 = 1 := by kernel_rfl
    have a6 : Try.prog.cellsOf 2 = 1 := by kernel_rfl
    simp [a0, a1, a2, a3, a4, a5, a6] at g0 g1 g2 g3 g4 g5 g6 g7 g8
    obtain ⟨z0, f0, _, w0⟩ := DataW.trod_int Try.underlying2 g0
    simp only [List.cons.injEq, and_true] at f0
    subst f0
    obtain ⟨z1, f1, _, w1⟩ := DataW.trod_int Try.underlying2 g1
    simp only [List.cons.injEq, and_true] at f1
    subst f1
    obtain ⟨z2, f2, _, w2⟩ := DataW.trod_int Try.underlying2 g2
    simp only [List.cons.injEq, and_true] at f2
    subst f2
    obtain ⟨z3, l3, r3⟩ := tl_Char g3
    obtain ⟨z4, l4, r4⟩ := tl_Thing g4
    obtain ⟨z5, l5, r5⟩ := tl_Mob g5
    obtain ⟨z6, l6, r6⟩ := tl_House g6
    obtain ⟨z7, l7, r7⟩ := tl_Lot g7
    obtain ⟨z8, l8, r8⟩ := tl_Till g8
    exact ⟨(z0, z1, z2, z3, z4, z5, z6, z7, z8), ⟨_, _, _, _, _, _, l3, l4, l5, l6, l7, l8, rfl⟩, wf_ok w0, wf_ok w1, wf_ok w2, r3, r4, r5, r6, r7, r8⟩
def rEvent (x : MEvent) : Prop := okN x.1 ∧ (∀ d ∈ x.2.2.2, okN d)
set_option maxHeartbeats 1000000 in
theorem te_Event : TE eEvent rEvent 44 := by
  intro H enc W n cs y h
  obtain ⟨xs, k, hk, hxy, hcl, hxl, hff⟩ := DataW.trod_struct Try.underlying44 h
  have hcn : cs.length = 4 := by rw [hcl]; kernel_rfl
  match xs, hxl, cs, hcn with
  | [y0, y1, y2, y3], _, [v0, v1, v2, v3], _ =>
    have g0 := hff 0 _ rfl
    have g1 := hff 1 _ rfl
    have g2 := hff 2 _ rfl
    have g3 := hff 3 _ rfl
    have a0 : Try.prog.cellsOf 42 = 1 := by kernel_rfl
    have a1 : Try.prog.cellsOf 3 = 1 := by kernel_rfl
    have a2 : Try.prog.cellsOf 9 = 1 := by kernel_rfl
    simp [a0, a1, a2] at g0 g1 g2 g3
    obtain ⟨z0, f0, _, w0⟩ := DataW.trod_int Try.underlying3 g0
    simp only [List.cons.injEq, and_true] at f0
    subst f0
    obtain ⟨z1, f1, _, _⟩ := DataW.trod_string Try.underlying9 g1
    simp only [List.cons.injEq, and_true] at f1
    subst f1
    obtain ⟨z2, f2, _, _⟩ := DataW.trod_string Try.underlying9 g2
    simp only [List.cons.injEq, and_true] at f2
    subst f2
    obtain ⟨z3, l3, r3⟩ := tl_ints g3
    exact ⟨(z0, z1, z2, z3), ⟨_, l3, rfl⟩, wf_ok w0, r3⟩

end Go.Proofs.Ytpefkellcigpkaa.Cd
