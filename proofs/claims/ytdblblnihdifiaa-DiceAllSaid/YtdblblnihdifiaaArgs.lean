/- Laws of no program: a law's arguments read behind the call as before; slices of bytes and of bools that came in. -/
import Derived.Test.YtdblblnihdifiaaRow
import Derived.ProofKit
import Derived.OpenShut
import Derived.Deep.Grids
namespace Go.Proofs.Ytdblblnihdifiaa
set_option maxRecDepth 100000
open Go.ChangeShapes Go.WideShapes Go.ChangeAt Go.RowKit Go.Deep

theorem trodAll_stays {H : Type} {enc : TypeId × Value → H} {P : Program} (hl : laidOutB P = true) {W W' : World} (hb : Below W.heap.size W W') : ∀ (ts : List TypeId), (∀ t ∈ ts, P.readableRec t = true ∧ t < P.types.size) →
    ∀ (vs : List Value) (ds : List (DataW H)) (p : List MemPlace), DataW.TrodAll enc P W 0 (fun _ => true) true ts vs ds p → (∀ x ∈ p, x.block < W.heap.size) →
      DataW.TrodAll enc P W' 0 (fun b => decide (b < W.heap.size)) true ts vs ds p
  | [], _, [], [], _, h, _ => h
  | t :: ts, hr, v :: vs, d :: ds, ps, h, hp => by
    obtain ⟨p, q, h1, h2, rfl⟩ := h
    obtain ⟨r1, r2⟩ := hr t (List.mem_cons_self ..)
    exact ⟨p, q, Below.trod hl r1 r2 h1 hb (fun x hx => hp x (List.mem_append_left _ hx)), trodAll_stays hl hb ts (fun t ht => hr t (List.mem_cons_of_mem _ ht)) vs ds q h2 (fun x hx => hp x (List.mem_append_right _ hx)), rfl⟩
  | [], _, [], _ :: _, _, h, _ => h.elim
  | [], _, _ :: _, _, _, h, _ => h.elim
  | _ :: _, _, [], _, _, h, _ => h.elim
  | _ :: _, _, _ :: _, [], _, h, _ => h.elim

theorem Keep.below0 {w w' : World} (h : Keep (fun _ => False) w w') : Below w.heap.size w w' := h.below (Nat.le_refl _) (fun _ h => h.elim)

def bcells (l : List UInt8) : List Value := l.map fun b => Value.int .u8 (b.toNat : Int)

def bools (bs : List Bool) : List Value := bs.map Value.bool

theorem bcells_length (l : List UInt8) : (bcells l).length = l.length := by simp [bcells]

theorem bcells_one (l : List UInt8) : ∀ u ∈ bcells l, u.oneCell' = true := by
  intro u hu
  obtain ⟨x, _, rfl⟩ := List.mem_map.1 hu
  rfl

/-- A []byte that came in. -/
theorem seen_bytes {w : World} {a : Addr} {len cap : Nat} {zs : List Int} (hl : len ≤ cap) (hm : cap ≤ maxLen) (hz : zs.length = cap) (hc : ∀ i, i < zs.length → w.cell? (a.add i) = some (.int .u8 (zs.getD i 0))) (hw : ∀ n ∈ zs, (Lit.int .u8 n).wf = true) :
    ∃ l : List UInt8, l.length = len ∧ Seen w 1 (.slice (some a) len cap) len (bcells l) ∧ (0 < len → a.block < w.heap.size) := by
  refine ⟨(zs.take len).map fun n => UInt8.ofNat n.toNat, by simp; omega, ⟨by simp [bcells]; omega, some a, cap, rfl, hl, hm, ?_⟩, fun h0 => ?_⟩
  · rcases Nat.eq_zero_or_pos len with h0 | h0
    · exact .inl h0
    right
    obtain ⟨b, off, spot⟩ := a
    have hspot : spot = none := by simpa [Addr.add] using World.cell?_spot (hc 0 (by omega))
    subst hspot
    refine ⟨b, off, rfl, by simpa [Addr.add] using World.block_lt_of_cell? _ _ (hc 0 (by omega)), fun j u hu => ?_⟩
    have hj : j < len := by
      have := (List.getElem?_eq_some_iff.1 hu).1
      simp [bcells] at this; omega
    have := hc j (by omega)
    rw [add_off] at this
    rw [this]
    have hzj : j < zs.length := by omega
    simp only [bcells, List.getElem?_map, List.getElem?_take, hj, if_true, List.getElem?_eq_getElem hzj, Option.map_some, Option.some.injEq] at hu
    rw [← hu, List.getD_eq_getElem?_getD, List.getElem?_eq_getElem hzj]
    have hwf := hw _ (List.getElem_mem hzj)
    simp only [Lit.wf] at hwf
    have hb : 0 ≤ zs[j] ∧ zs[j] < 256 := by
      revert hwf
      generalize zs[j] = q
      intro hwf
      simp [show IntKind.u8.min = 0 from rfl, show IntKind.u8.max = 255 from rfl] at hwf
      omega
    have h3 : ((UInt8.ofNat zs[j].toNat).toNat : Int) = zs[j] := by
      rw [UInt8.toNat_ofNat']
      omega
    rw [h3]; rfl
  · have := World.block_lt_of_cell? _ _ (hc 0 (by omega))
    simpa [Addr.add] using this

/-- A []bool that came in. -/
theorem seen_bools {w : World} {a : Addr} {len cap : Nat} {B : Nat → Bool} (hl : len ≤ cap) (hm : cap ≤ maxLen) (hc : ∀ i, i < cap → w.cell? (a.add i) = some (.bool (B i))) :
    Seen w 1 (.slice (some a) len cap) len (bools ((List.range len).map B)) ∧ (0 < len → a.block < w.heap.size) := by
  refine ⟨⟨by simp [bools], some a, cap, rfl, hl, hm, ?_⟩, fun h0 => ?_⟩
  · rcases Nat.eq_zero_or_pos len with h0 | h0
    · exact .inl h0
    right
    obtain ⟨b, off, spot⟩ := a
    have hspot : spot = none := by simpa [Addr.add] using World.cell?_spot (hc 0 (by omega))
    subst hspot
    refine ⟨b, off, rfl, by simpa [Addr.add] using World.block_lt_of_cell? _ _ (hc 0 (by omega)), fun j u hu => ?_⟩
    have hj : j < len := by
      have := (List.getElem?_eq_some_iff.1 hu).1
      simp [bools] at this; omega
    have := hc j (by omega)
    rw [add_off] at this
    rw [this]
    simp [bools, hj] at hu
    rw [hu]
  · have := World.block_lt_of_cell? _ _ (hc 0 (by omega))
    simpa [Addr.add] using this


end Go.Proofs.Ytdblblnihdifiaa
