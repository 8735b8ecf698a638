/- Laws of no program: a law's arguments read behind the call as before; slices of bytes and of bools that came in. -/
import Derived.Test.YtheaghgockafmaaGreatRow
import Derived.ProofKit
import Derived.OpenShut
import Derived.Deep.Grids
namespace Go.Proofs.YtheaghgockafmaaGreat
set_option maxRecDepth 100000
open Go.ChangeShapes Go.WideShapes Go.ChangeAt Go.RowKit Go.Deep

theorem trodAll_stays {H : Type} {enc : TypeId × Value → H} {P : Program} (hl : laidOutB P = true) {W W' : World} (hb : Below W.heap.size W W') : ∀ (ts : List TypeId), (∀ t ∈ ts, P.readableRec t = true ∧ t < P.types.size) →
    ∀ (vs : List Value) (ds : List (DataW H)) (p : List MemPlace), DataW.TrodAll enc P W 0 (fun _ => true) true ts vs ds p → (∀ x ∈ p, x.block < W.heap.size) →
      DataW.TrodAll enc P W' 0 (fun b => decide (b < W.heap.size)) true ts vs ds p
  | [], _, [], [], _, h, _ => h
  | t :: ts, hr, v :: vs, d :: ds, ps, h, hp => by
    obtain ⟨p, q, h1, h2, rfl⟩ := h
    obtain ⟨r1, r2⟩ := hr t (List.mem_cons_self ..)
    exact ⟨p, q, Below.trod hl r1 r2 h1 hb (fun x hx => hp x (List.mem_append_left _ hx)), trodAll_stays hl hb ts (fun t ht => hr t (List.mem_cons_of_mem _ ht)) vs ds q h2 (fun x hx => hp x (List.mem_append_right _ hx)), rfl⟩
  | [], _, [], _ :: _, _, h, _ => h.elim
  | [], _, _ :: _, _, _, h, _ => h.elim
  | _ :: _, _, [], _, _, h, _ => h.elim
  | _ :: _, _, _ :: _, [], _, h, _ => h.elim

theorem Keep.below0 {w w' : World} (h : Keep (fun _ => False) w w') : Below w.heap.size w w' := h.below (Nat.le_refl _) (fun _ h => h.elim)

def bcells (l : List UInt8) : List Value := l.map fun b => Value.int .u8 (b.toNat : Int)

def bools (bs : List Bool) : List Value := bs.map Value.bool

theorem bcells_length (l : List UInt8) : (bcells l).length = l.length := by simp [bcells]

theorem bcells_one (l : List UInt8) : ∀ u ∈ bcells l, u.oneCell' = true := by
  intro u hu
  obtain ⟨x, _, rfl⟩ := List.mem_map.1 hu
  rfl

/-- A []byte that came in. -/
theorem seen_bytes {w : World} {a : Addr} {len cap : Nat} {zs : List Int} (hl : len ≤ cap) (hm : cap ≤ maxLen) (hz : zs.length = cap) (hc : ∀ i, i < zs.length → w.cell? (a.add i) = some (.int .u8 (zs.getD i 0))) (hw : ∀ n ∈ zs, (Lit.int .u8 n).wf = true) :
    ∃ l : List UInt8, l.length = len ∧ Seen w 1 (.slice (some a) len cap) len (bcells l) ∧ (0 < len → a.block < w.heap.size) := by
  refine ⟨(zs.take len).map fun n => UInt8.ofNat n.toNat, by simp; omega, ⟨by simp [bcells]; omega, some a, cap, rfl, hl, hm, ?_⟩, fun h0 => ?_⟩
  · rcases Nat.eq_zero_or_pos len with h0 | h0
    · exact .inl h0
    right
    obtain ⟨b, off, spot⟩ := a
    have hspot : spot = none := by simpa [Addr.add] using World.cell?_spot (hc 0 (by omega))
    subst hspot
    refine ⟨b, off, rfl, by simpa [Addr.add] using World.block_lt_of_cell? _ _ (hc 0 (by omega)), fun j u hu => ?_⟩
    have hj : j < len := by
      have := (List.getElem?_eq_some_iff.1 hu).1
      simp [bcells] at this; omega
    have := hc j (by omega)
    rw [add_off] at this
    rw [this]
    have hzj : j < zs.length := by omega
    simp only [bcells, List.getElem?_map, List.getElem?_take, hj, if_true, List.getElem?_eq_getElem hzj, Option.map_some, Option.some.injEq] at hu
    rw [← hu, List.getD_eq_getElem?_getD, List.getElem?_eq_getElem hzj]
    have hwf := hw _ (List.getElem_mem hzj)
    simp only [Lit.wf] at hwf
    have hb : 0 ≤ zs[j] ∧ zs[j] < 256 := by
      revert hwf
      generalize zs[j] = q
      intro hwf
      simp [show IntKind.u8.min = 0 from rfl, show IntKind.u8.max = 255 from rfl] at hwf
      omega
    have h3 : ((UInt8.ofNat zs[j].toNat).toNat : Int) = zs[j] := by
      rw [UInt8.toNat_ofNat']
      omega
    rw [h3]; rfl
  · have := World.block_lt_of_cell? _ _ (hc 0 (by omega))
    simpa [Addr.add] using this

/-- A []bool that came in. -/
theorem seen_bools {w : World} {a : Addr} {len cap : Nat} {B : Nat → Bool} (hl : len ≤ cap) (hm : cap ≤ maxLen) (hc : ∀ i, i < cap → w.cell? (a.add i) = some (.bool (B i))) :
    Seen w 1 (.slice (some a) len cap) len (bools ((List.range len).map B)) ∧ (0 < len → a.block < w.heap.size) := by
  refine ⟨⟨by simp [bools], some a, cap, rfl, hl, hm, ?_⟩, fun h0 => ?_⟩
  · rcases Nat.eq_zero_or_pos len with h0 | h0
    · exact .inl h0
    right
    obtain ⟨b, off, spot⟩ := a
    have hspot : spot = none := by simpa [Addr.add] using World.cell?_spot (hc 0 (by omega))
    subst hspot
    refine ⟨b, off, rfl, by simpa [Addr.add] using World.block_lt_of_cell? _ _ (hc 0 (by omega)), fun j u hu => ?_⟩
    have hj : j < len := by
      have := (List.getElem?_eq_some_iff.1 hu).1
      simp [bools] at this; omega
    have := hc j (by omega)
    rw [add_off] at this
    rw [this]
    simp [bools, hj] at hu
    rw [hu]
  · have := World.block_lt_of_cell? _ _ (hc 0 (by omega))
    simpa [Addr.add] using this

theorem Tryz.cellsB : Tryz.prog.cellsOf 5 = 1 := by kernel_rfl

/-- A []byte among the arguments. -/
theorem arg_bytes {H : Type} {enc : TypeId × Value → H} {W : World} {v : Value} {d : DataW H} {ps : List MemPlace} {base : Nat} (hv : Value.okWide Tryz.prog W .any base 203 v) (h : DataW.Trod enc Tryz.prog W 0 (fun _ => true) true 203 v d ps) :
    ∃ l : List UInt8, Seen W 1 v l.length (bcells l) ∧ (∀ b, v.ownBlock = some b → 0 < l.length → b < W.heap.size) := by
  obtain ⟨a0, len, cap, rfl⟩ := okWide_slice Tryz.underlying203 hv
  obtain ⟨fuel, hf⟩ := h
  rcases open_ints Tryz.underlying203 Tryz.underlying5 Tryz.cellsB hf with ⟨hcs, hx⟩ | ⟨a, len', cap', zs, hcs, _, hl, hm, hz, hx, hc, hw⟩
  · simp [Value.cells] at hcs
    obtain ⟨rfl, rfl, rfl⟩ := hcs
    exact ⟨[], Seen.nil _ _, fun b hb => by simp [Value.ownBlock] at hb⟩
  · simp [Value.cells] at hcs
    obtain ⟨rfl, rfl, rfl⟩ := hcs
    obtain ⟨l, rfl, h2, h3⟩ := seen_bytes hl hm (by simpa using hz) hc hw
    exact ⟨l, h2, fun b hb h0 => by simp [Value.ownBlock] at hb; subst hb; exact h3 h0⟩

end Go.Proofs.YtheaghgockafmaaGreat
