/- codec: worlds among a law's arguments, with the reach of their lists. -/
import Derived.Test.YtpefkellcigpkaaCdArg
import Derived.SizedLaws
namespace Go.Proofs.Ytpefkellcigpkaa.Cd
open Go.ChangeShapes Go.WideShapes Go.ChangeAt Go.RowKit Go.Deep Go.Proofs.Ytpefkellcigpkaa
set_option maxRecDepth 100000

/-- What can be read as data of type t, within reach, is a thing of the kind. -/
def TEw {M : Type} (E : El M) (R : M → Prop) (t : TypeId) : Prop :=
  ∀ {H : Type} {enc : TypeId × Value → H} {W : World} {n : Nat} {cs : List Value} {y : DataW H × List MemPlace}, DataW.trod enc Try.prog W 0 (fun _ => true) true n t cs = some y → (∀ q ∈ y.1.weights Try.prog t, q ≤ reachBytes) → ∃ x, E.H (fun b => b < W.heap.size) W x cs ∧ R x
/-- Likewise of a list of such things. -/
def TLw {M : Type} (E : El M) (R : M → Prop) (t : TypeId) (b : Nat) : Prop :=
  ∀ {H : Type} {enc : TypeId × Value → H} {W : World} {n : Nat} {v : Value} {y : DataW H × List MemPlace}, DataW.trod enc Try.prog W 0 (fun _ => true) true n t [v] = some y → (∀ q ∈ y.1.weights Try.prog t, q ≤ reachBytes) → ∃ l, LAt E (fun b => b < W.heap.size) W v l ∧ (∀ x ∈ l, R x) ∧ l.length * b ≤ reachBytes

theorem TE.w {M : Type} {E : El M} {R : M → Prop} {t : TypeId} (h : TE E R t) : TEw E R t := fun ht _ => h ht

theorem weightsAll_mem {H : Type} {P : Program} {e : TypeId} : ∀ {ds : List (DataW H)} {d : DataW H}, d ∈ ds → ∀ q ∈ d.weights P e, q ∈ DataW.weightsAll P e ds
  | [], _, h, _, _ => by cases h
  | d0 :: ds, d, h, q, hq => by
    rw [DataW.weightsAll, List.mem_append]
    rcases List.mem_cons.1 h with rfl | h
    · exact .inl hq
    · exact .inr (weightsAll_mem h q hq)

theorem struct_weights {H : Type} {P : Program} {t : TypeId} {fs : Array Field} {y : DataW H × List MemPlace} {xs : List (DataW H × List MemPlace)} {pl : List MemPlace} (ht : P.underlying t = some (.struct fs)) (hxy : y = (.agg (xs.map (·.1)), pl))
    (hw : ∀ q ∈ y.1.weights P t, q ≤ reachBytes) (i : Nat) (f : Field) (h1 : fs[i]? = some f) (z : DataW H × List MemPlace) (h2 : xs[i]? = some z) : ∀ q ∈ z.1.weights P f.type, q ≤ reachBytes := by
  intro q hq
  refine hw q ?_
  subst hxy
  simp only [DataW.weights, ht]
  refine DataW.weights_mem_each (j := i) (t := f.type) (d := z.1) ?_ ?_ q hq
  · rw [List.getElem?_map, Array.getElem?_toList, h1]; rfl
  · rw [List.getElem?_map, h2]; rfl

theorem tew_list {M : Type} [Inhabited M] {E : El M} {R : M → Prop} {t e : TypeId} {b : Nat} (hE : TEw E R e) (hu : Try.prog.underlying t = some (.slice e)) (hC : Try.prog.cellsOf e = E.size) (hpos : 0 < E.size) (hB : Try.prog.bytesOf e = b) : TLw E R t b := by
  intro H enc W n v y h hw
  rcases open_slice hu h with ⟨hcs, hx⟩ | ⟨a, len, cap, m, n', D, Pl, hcs, hb, hl, hm, hmm, hx, hc⟩
  · simp only [List.cons.injEq, and_true] at hcs
    subst hcs
    exact ⟨[], LAt.nil, by simp, by simp⟩
  · simp only [List.cons.injEq, and_true] at hcs
    subst hcs
    have hlm : len ≤ m := by rw [hmm]; split <;> omega
    have hsp : 0 < len → a.spot = none := fun h0 => by
      obtain ⟨cs', h1, _⟩ := hc 0 (by omega)
      rw [hC] at h1
      obtain ⟨_, hlen, hcell⟩ := World.cells?_some h1
      have h0' := hcell 0 hpos
      rw [List.getElem?_eq_getElem (by omega)] at h0'
      have := World.cell?_spot h0'
      simpa [Addr.add] using this
    subst hx
    simp only [DataW.weights, hu] at hw
    have hwe : ∀ i, i < len → ∀ q ∈ (D i).weights Try.prog e, q ≤ reachBytes := fun i hi q hq => hw q (List.mem_cons_of_mem _ (List.mem_append_left _ (weightsAll_mem (List.mem_map.2 ⟨i, by simpa using hi, rfl⟩) q hq)))
    have hwl : len * b ≤ reachBytes := by
      have h9 := hw _ (List.mem_cons_self ..)
      rw [hB] at h9
      refine Nat.le_trans (Nat.mul_le_mul_right b ?_) h9
      simp
    have each : ∀ i, i < len → ∃ x : M, ∃ cs, a.spot = none ∧ a.block < W.heap.size ∧ E.H (fun b => b < W.heap.size) W x cs ∧ (∀ j u, cs[j]? = some u → W.cell? (a.add (i * E.size + j)) = some u) ∧ R x := by
      intro i hi
      obtain ⟨cs', h1, h2⟩ := hc i (by omega)
      rw [hC] at h1
      obtain ⟨_, hlen, hcell⟩ := World.cells?_some h1
      obtain ⟨x, hH, hR⟩ := hE h2 (hwe i hi)
      have e0 := hcell 0 hpos
      rw [List.getElem?_eq_getElem (by omega)] at e0
      have hsp1 := hsp (by omega)
      refine ⟨x, cs', hsp1, ?_, hH, fun j u hu => ?_, hR⟩
      · have := World.block_lt_of_cell? _ _ e0
        obtain ⟨g, off, spot⟩ := a
        simp only at hsp1
        subst hsp1
        rw [add_off, add_off] at this
        exact this
      · have hj : j < E.size := by
          have := (List.getElem?_eq_some_iff.1 hu).1; omega
        have := hcell j hj
        rw [add_add] at this
        rw [this]; exact hu
    obtain ⟨f, hf⟩ := choose_lt each
    refine ⟨(List.range len).map f, ⟨some a, cap, by simp, by simpa using hl, hm, ?_⟩, fun x hx => ?_, by simpa using hwl⟩
    · by_cases h0 : len = 0
      · left; simp [h0]
      · obtain ⟨_, hsp, hlt, _⟩ := hf 0 (by omega)
        obtain ⟨g, off, spot⟩ := a
        simp only at hsp hlt
        subst hsp
        refine .inr ⟨g, off, rfl, hlt, hlt, fun i x hi => ?_⟩
        have hil : i < len := by have := (List.getElem?_eq_some_iff.1 hi).1; simpa using this
        obtain ⟨cs, _, _, hH, hr, _⟩ := hf i hil
        have hx : x = f i := by
          rw [List.getElem?_map, List.getElem?_range hil] at hi
          simpa using hi.symm
        subst hx
        exact ⟨cs, hH, fun j u hu => by have := hr j u hu; rw [add_off] at this; rw [Nat.add_assoc]; exact this⟩
    · obtain ⟨i, hi, rfl⟩ := List.mem_map.1 hx
      obtain ⟨_, _, _, _, _, hR⟩ := hf i (by simpa using hi)
      exact hR

theorem tlw_ints : TLw eI okN 42 8 := tew_list te_int.w Try.underlying42 (by kernel_rfl) (by decide) (by kernel_rfl)
theorem tlw_strings : TLw eS (fun _ => True) 63 16 := tew_list te_string.w Try.underlying63 (by kernel_rfl) (by decide) (by kernel_rfl)
theorem tlw_Thing : TLw eThing rThing 23 48 := tew_list te_Thing.w Try.underlying23 (by kernel_rfl) (by decide) (by kernel_rfl)
theorem tlw_Mob : TLw eMob rMob 24 32 := tew_list te_Mob.w Try.underlying24 (by kernel_rfl) (by decide) (by kernel_rfl)
theorem tlw_Till : TLw eTill rTill 27 16 := tew_list te_Till.w Try.underlying27 (by kernel_rfl) (by decide) (by kernel_rfl)
theorem tlw_Lot : TLw eLot rLot 26 72 := tew_list te_Lot.w Try.underlying26 (by kernel_rfl) (by decide) (by kernel_rfl)

def wHouse (x : (Int × ByteArray × List ByteArray × Int)) : Prop := rHouse x ∧ x.2.2.1.length * 16 ≤ reachBytes
set_option maxHeartbeats 1000000 in
theorem tew_House : TEw eHouse wHouse 65 := by
  intro H enc W n cs y h hw
  obtain ⟨xs, k, hk, hxy, hcl, hxl, hff⟩ := DataW.trod_struct Try.underlying65 h
  have hcn : cs.length = 4 := by rw [hcl]; kernel_rfl
  match xs, hxl, cs, hcn with
  | [y0, y1, y2, y3], _, [v0, v1, v2, v3], _ =>
    have g0 := hff 0 _ rfl
    have g1 := hff 1 _ rfl
    have g2 := hff 2 _ rfl
    have g3 := hff 3 _ rfl
    have a0 : Try.prog.cellsOf 63 = 1 := by kernel_rfl
    have a1 : Try.prog.cellsOf 3 = 1 := by kernel_rfl
    have a2 : Try.prog.cellsOf 2 = 1 := by kernel_rfl
    have a3 : Try.prog.cellsOf 9 = 1 := by kernel_rfl
    simp [a0, a1, a2, a3] at g0 g1 g2 g3
    obtain ⟨z0, f0, _, w0⟩ := DataW.trod_int Try.underlying3 g0
    simp only [List.cons.injEq, and_true] at f0
    subst f0
    obtain ⟨z1, f1, _, _⟩ := DataW.trod_string Try.underlying9 g1
    simp only [List.cons.injEq, and_true] at f1
    subst f1
    obtain ⟨z2, l2, r2, b2⟩ := tlw_strings g2 (struct_weights Try.underlying65 hxy hw 2 _ rfl _ rfl)
    obtain ⟨z3, f3, _, w3⟩ := DataW.trod_int Try.underlying2 g3
    simp only [List.cons.injEq, and_true] at f3
    subst f3
    exact ⟨(z0, z1, z2, z3), ⟨_, l2, rfl⟩, ⟨wf_ok w0, wf_ok w3⟩, b2⟩
theorem tlw_House : TLw eHouse wHouse 25 56 := tew_list tew_House Try.underlying25 (by kernel_rfl) (by decide) (by kernel_rfl)

def wChar (x : (ByteArray × ByteArray × Bool × Int × Int × Int × Int × Int × Int × List Int)) : Prop := rChar x ∧ x.2.2.2.2.2.2.2.2.2.length * 8 ≤ reachBytes
set_option maxHeartbeats 1000000 in
theorem tew_Char : TEw eChar wChar 58 := by
  intro H enc W n cs y h hw
  obtain ⟨xs, k, hk, hxy, hcl, hxl, hff⟩ := DataW.trod_struct Try.underlying58 h
  have hcn : cs.length = 10 := by rw [hcl]; kernel_rfl
  match xs, hxl, cs, hcn with
  | [y0, y1, y2, y3, y4, y5, y6, y7, y8, y9], _, [v0, v1, v2, v3, v4, v5, v6, v7, v8, v9], _ =>
    have g0 := hff 0 _ rfl
    have g1 := hff 1 _ rfl
    have g2 := hff 2 _ rfl
    have g3 := hff 3 _ rfl
    have g4 := hff 4 _ rfl
    have g5 := hff 5 _ rfl
    have g6 := hff 6 _ rfl
    have g7 := hff 7 _ rfl
    have g8 := hff 8 _ rfl
    have g9 := hff 9 _ rfl
    have a0 : Try.prog.cellsOf 42 = 1 := by kernel_rfl
    have a1 : Try.prog.cellsOf 4 = 1 := by kernel_rfl
    have a2 : Try.prog.cellsOf 3 = 1 := by kernel_rfl
    have a3 : Try.prog.cellsOf 2 = 1 := by kernel_rfl
    have a4 : Try.prog.cellsOf 9 = 1 := by kernel_rfl
    simp [a0, a1, a2, a3, a4] at g0 g1 g2 g3 g4 g5 g6 g7 g8 g9
    obtain ⟨z0, f0, _, _⟩ := DataW.trod_string Try.underlying9 g0
    simp only [List.cons.injEq, and_true] at f0
    subst f0
    obtain ⟨z1, f1, _, _⟩ := DataW.trod_string Try.underlying9 g1
    simp only [List.cons.injEq, and_true] at f1
    subst f1
    obtain ⟨z2, f2, _⟩ := DataW.trod_bool Try.underlying4 g2
    simp only [List.cons.injEq, and_true] at f2
    subst f2
    obtain ⟨z3, f3, _, w3⟩ := DataW.trod_int Try.underlying3 g3
    simp only [List.cons.injEq, and_true] at f3
    subst f3
    obtain ⟨z4, f4, _, w4⟩ := DataW.trod_int Try.underlying2 g4
    simp only [List.cons.injEq, and_true] at f4
    subst f4
    obtain ⟨z5, f5, _, w5⟩ := DataW.trod_int Try.underlying2 g5
    simp only [List.cons.injEq, and_true] at f5
    subst f5
    obtain ⟨z6, f6, _, w6⟩ := DataW.trod_int Try.underlying2 g6
    simp only [List.cons.injEq, and_true] at f6
    subst f6
    obtain ⟨z7, f7, _, w7⟩ := DataW.trod_int Try.underlying2 g7
    simp only [List.cons.injEq, and_true] at f7
    subst f7
    obtain ⟨z8, f8, _, w8⟩ := DataW.trod_int Try.underlying2 g8
    simp only [List.cons.injEq, and_true] at f8
    subst f8
    obtain ⟨z9, l9, r9, b9⟩ := tlw_ints g9 (struct_weights Try.underlying58 hxy hw 9 _ rfl _ rfl)
    exact ⟨(z0, z1, z2, z3, z4, z5, z6, z7, z8, z9), ⟨_, l9, rfl⟩, ⟨wf_ok w3, wf_ok w4, wf_ok w5, wf_ok w6, wf_ok w7, wf_ok w8, r9⟩, b9⟩
theorem tlw_Char : TLw eChar wChar 22 112 := tew_list tew_Char Try.underlying22 (by kernel_rfl) (by decide) (by kernel_rfl)

structure wWorld (x : MWorld) : Prop where
  now : okN x.1
  next : okN x.2.1
  minted : okN x.2.2.1
  chars : (∀ d ∈ x.2.2.2.1, wChar d) ∧ x.2.2.2.1.length * 112 ≤ reachBytes
  things : (∀ d ∈ x.2.2.2.2.1, rThing d) ∧ x.2.2.2.2.1.length * 48 ≤ reachBytes
  mobs : (∀ d ∈ x.2.2.2.2.2.1, rMob d) ∧ x.2.2.2.2.2.1.length * 32 ≤ reachBytes
  houses : (∀ d ∈ x.2.2.2.2.2.2.1, wHouse d) ∧ x.2.2.2.2.2.2.1.length * 56 ≤ reachBytes
  lots : (∀ d ∈ x.2.2.2.2.2.2.2.1, rLot d) ∧ x.2.2.2.2.2.2.2.1.length * 72 ≤ reachBytes
  tills : (∀ d ∈ x.2.2.2.2.2.2.2.2, rTill d) ∧ x.2.2.2.2.2.2.2.2.length * 16 ≤ reachBytes

set_option maxHeartbeats 1000000 in
theorem tew_World : TEw eWorld wWorld 29 := by
  intro H enc W n cs y h hw
  obtain ⟨xs, k, hk, hxy, hcl, hxl, hff⟩ := DataW.trod_struct Try.underlying29 h
  have hcn : cs.length = 9 := by rw [hcl]; kernel_rfl
  match xs, hxl, cs, hcn with
  | [y0, y1, y2, y3, y4, y5, y6, y7, y8], _, [v0, v1, v2, v3, v4, v5, v6, v7, v8], _ =>
    have g0 := hff 0 _ rfl
    have g1 := hff 1 _ rfl
    have g2 := hff 2 _ rfl
    have g3 := hff 3 _ rfl
    have g4 := hff 4 _ rfl
    have g5 := hff 5 _ rfl
    have g6 := hff 6 _ rfl
    have g7 := hff 7 _ rfl
    have g8 := hff 8 _ rfl
    have a0 : Try.prog.cellsOf 22 = 1 := by kernel_rfl
    have a1 : Try.prog.cellsOf 25 = 1 := by kernel_rfl
    have a2 : Try.prog.cellsOf 26 = 1 := by kernel_rfl
    have a3 : Try.prog.cellsOf 24 = 1 := by kernel_rfl
    have a4 : Try.prog.cellsOf 23 = 1 := by kernel_rfl
    have a5 : Try.prog.cellsOf 27 = 1 := by kernel_rfl
    have a6 : Try.prog.cellsOf 2 = 1 := by kernel_rfl
    simp [a0, a1, a2, a3, a4, a5, a6] at g0 g1 g2 g3 g4 g5 g6 g7 g8
    obtain ⟨z0, f0, _, w0⟩ := DataW.trod_int Try.underlying2 g0
    simp only [List.cons.injEq, and_true] at f0
    subst f0
    obtain ⟨z1, f1, _, w1⟩ := DataW.trod_int Try.underlying2 g1
    simp only [List.cons.injEq, and_true] at f1
    subst f1
    obtain ⟨z2, f2, _, w2⟩ := DataW.trod_int Try.underlying2 g2
    simp only [List.cons.injEq, and_true] at f2
    subst f2
    obtain ⟨z3, l3, r3⟩ := tlw_Char g3 (struct_weights Try.underlying29 hxy hw 3 _ rfl _ rfl)
    obtain ⟨z4, l4, r4⟩ := tlw_Thing g4 (struct_weights Try.underlying29 hxy hw 4 _ rfl _ rfl)
    obtain ⟨z5, l5, r5⟩ := tlw_Mob g5 (struct_weights Try.underlying29 hxy hw 5 _ rfl _ rfl)
    obtain ⟨z6, l6, r6⟩ := tlw_House g6 (struct_weights Try.underlying29 hxy hw 6 _ rfl _ rfl)
    obtain ⟨z7, l7, r7⟩ := tlw_Lot g7 (struct_weights Try.underlying29 hxy hw 7 _ rfl _ rfl)
    obtain ⟨z8, l8, r8⟩ := tlw_Till g8 (struct_weights Try.underlying29 hxy hw 8 _ rfl _ rfl)
    exact ⟨(z0, z1, z2, z3, z4, z5, z6, z7, z8), ⟨_, _, _, _, _, _, l3, l4, l5, l6, l7, l8, rfl⟩, wf_ok w0, wf_ok w1, wf_ok w2, r3, r4, r5, r6, r7, r8⟩

end Go.Proofs.Ytpefkellcigpkaa.Cd
