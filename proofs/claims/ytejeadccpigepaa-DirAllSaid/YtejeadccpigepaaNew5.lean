/- Files on blocks: New, and the statements' own store when it is made. -/
import Derived.Test.YtejeadccpigepaaGrown
import Derived.Maps.Own
namespace Go.Proofs.Ytejeadccpigepaa.Ino
open Go.RowKit Go.Maps Go.Proofs.Ytejeadccpigepaa
set_option maxRecDepth 100000

theorem owns_empty {w : World} {b : Nat} (hb : w.heap[b]? = some (.map #[] 0)) : w.ownsMap Try.prog 3 hdrR b 1000000 (.map []) := by
  obtain ⟨es, clock, h1, F, h2, h3⟩ := (World.ownsMap_made w Try.prog 3 hdrR).mono (Nat.zero_le 1000000)
  rw [heap_alloc_new] at h1
  cases h1
  exact ⟨_, _, hb, F, h2, h3⟩

def Sto.made (most : Nat) : Sto := ⟨fun _ => none, 0, most, 0⟩

/-- A store that was made. -/
theorem IsSto.made {w : World} {s b most : Nat} (hs : w.heap[s]? = some (.cells #[.map (some b), .int .i64 (most : Int), .int .i64 0, .bool false] 27 (0, 0))) (hb : w.heap[b]? = some (.map #[] 0)) (hm : most < 100000) : IsSto w (fun x => x = s ∨ x = b) s b (.map []) (Sto.made most) := by
  refine ⟨hs, owns_empty hb, rfl, fun k => rfl, fun k hk => absurd rfl hk, by simp [Sto.made], by simp [Sto.made], hm, .inl rfl, .inr rfl, fun x hx => ?_⟩
  rcases hx with rfl | rfl
  · exact lt_of_block hs
  · exact lt_of_block hb

theorem zFile : Try.zeroCells58 = (.nilIface :: .int .i64 0 :: tabL zero203).toArray := by kernel_rfl

theorem new_any {w : World} {F : Nat → Prop} {s b : Nat} {D : DataW Unit} {S : Sto} (h : IsSto w F s b D S) :
    Calls Try.prog 5 #[.iface 24 (.pointer (some ⟨s, 0, none⟩))] w fun e w' => e = .returned (.pointer (some ⟨w.heap.size, 0, none⟩)) ∧ IsFile w' F w.heap.size s S 0 zero203 ∧ Keep (fun _ => False) w w' := by
  have H := Lib.hid h
  clear h
  have hz := zFile
  obtain ⟨Z, hZ⟩ : ∃ Z, Z = Try.zeroCells58 := ⟨_, rfl⟩
  rw [← hZ] at hz
  have hk : Keep (fun _ => False) w (w.alloc (.cells (Z.setIfInBounds 0 (.iface 24 (.pointer (some ⟨s, 0, none⟩)))) 58)) := (Keep.refl _ w).alloc _
  have hend : IsFile (w.alloc (.cells (Z.setIfInBounds 0 (.iface 24 (.pointer (some ⟨s, 0, none⟩)))) 58)) F w.heap.size s S 0 zero203 :=
    ⟨by rw [heap_alloc_new, hz]; simp, ⟨b, D, H.out.keep0 hk⟩, fun hx => by have := H.out.lt _ hx; omega, by simp [zero203], fun x hx => by
      rw [zero203] at hx; rw [List.eq_of_mem_replicate hx]; omega⟩
  rw [hZ] at hend hk
  have HE := Lib.hid hend; have HK := Lib.hid hk
  clear hend hk hz hZ
  go_enter Try.func5, Try.ntmps5
  go_wp2
  go_ret
  exact ⟨rfl, HE.out, HK.out⟩

end Go.Proofs.Ytejeadccpigepaa.Ino
