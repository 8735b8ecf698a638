/- homes: which sectors a group has, rising. -/
import Derived.Test.YtibmillfankjfaaGreatDoorGrp
namespace Go.Proofs.YtibmillfankjfaaGreatDoor
open Go.RowKit Go.Maps Go.Sort Go.Shelf
set_option maxRecDepth 100000

/-- slices.Sort's two contracts, at the fence that asks nothing. -/
theorem Tryz.sortsA (m : Nat) : AnyZI.SortsIn Tryz.prog Tryz.sortedA_ren Fence.wide m :=
  ⟨fun blk off cap ss W hH hblk hsz => callsIn_wide.2 (AnyM.slices_Sort_int Tryz.sortA blk off cap ss W hH hblk hsz),
   fun p cap W => callsIn_wide.2 (AnyM.slices_Sort_int_none Tryz.sortA p cap W)⟩

set_option maxHeartbeats 1000000 in
theorem homes_raw {H : Type} (b nn : Nat) (D0 : DataW H) (R : Value → Option (DataW H × List MemPlace)) (w : World) (hown : w.ownsMap Tryz.prog 3 R b nn D0) (hmax : Maps.size D0 ≤ maxLen) (hbytes : Maps.size D0 * 8 ≤ 140737488355328) :
    Calls Tryz.prog 39 #[.map (some b)] w fun e w' => ∃ (v : Value) (ss : List Int), e = .returned v ∧ ss.Perm (intKeys D0) ∧
      w'.ownsRow w.heap.size 3 1 v ss.length ((ss.mergeSort (fun x y => decide (x ≤ y))).map encZ) ∧ (v = .slice none 0 0 ↔ ss = []) ∧ Below w.heap.size w w' := by
  refine (callsIn_wide (n := 6)).1 ?_
  have hbl := hown.lt
  have hseq : SeqGives Fence.wide 2 Tryz.prog 65 #[.pointer (some ⟨w.heap.size, 0, none⟩)] encZ (fun ss => ss.Perm (intKeys D0)) (Maps.size D0) (w.alloc (.cells #[.map (some b)] 57)) :=
    AnyZI.keys_gives (ρ := Tryz.keysA_ren) { Tryz.keysA with } Fence.wide _ trivial rfl (by omega) w.heap.size b nn D0 _ (by simp) (by simp) (by
      obtain ⟨es, clock, hb, Ft, hs, hD⟩ := hown
      exact ⟨es, clock, (Below.heap_alloc _ _ b hbl).trans hb, Ft, hs, hD⟩)
  have cK : ∀ mb W, CallsIn Fence.wide 5 Tryz.prog 55 #[.map mb] W fun e w' => e = .returned (.func (.func 65) #[] #[.pointer (some ⟨W.heap.size, 0, none⟩)]) ∧ w' = W.alloc (.cells #[.map mb] 57) := fun mb W => AnyZI.keys_in Tryz.keysA Fence.wide 5 trivial rfl mb W
  have cS := AnyZI.sorted_in Tryz.sortedA Fence.wide 5 trivial trivial trivial trivial rfl (by omega) (Tryz.sortsA _) (enters_of Tryz.func64 (by kernel_rfl) rfl) 65 #[.pointer (some ⟨w.heap.size, 0, none⟩)] trivial (enters_of Tryz.func65 (by kernel_rfl) rfl) _ _ hmax hbytes _ hseq
  change CallsIn _ _ Tryz.prog 54 _ _ _ at cS
  have hfK : Fence.wide.fn 55 := trivial
  have hfS : Fence.wide.fn 54 := trivial
  refine callsIn_of_wp Tryz.func39 rfl trivial ?_ rfl
  simp only [Tryz.ntmps39, List.size_toArray, List.length_cons, List.length_nil, Nat.reduceAdd, Nat.reduceSub, Array.replicate_succ, Array.replicate_zero, List.push_toArray, List.append_toArray, List.nil_append, List.cons_append]
  gi_wp2_with (first | (gi_at_call 55; refine (cK _ _).mono ?_; rintro e w' ⟨rfl, rfl⟩) | (gi_at_call 54; refine cS.mono ?_; rintro e w' ⟨v, ss, rfl, hS, hrow, hnil, hb⟩))
  go_ret
  exact ⟨v, ss, rfl, hS, ownsRow_base_a hrow (by simp), hnil, ((Below.refl _ w).alloc (Nat.le_refl _) _).trans (hb.mono (by simp))⟩

def ints (l : List Nat) : List Value := l.map fun i : Nat => Value.int .i64 (i : Int)

theorem keys_sorted {g : Grp} (h : GOk g) {ss : List Int} (hp : ss.Perm (intKeys (gD g))) : (ss.mergeSort (fun x y => decide (x ≤ y))).map encZ = ints (gkeys g) := by
  have e := mergeSort_of_perm_i hp
  have hs : (intKeys (gD g)).Pairwise (fun a b => leI a b = true) := by
    rw [gD_keys, gkeys, List.map_map, List.pairwise_map]
    refine h.rising.imp (fun {a b} hab => ?_)
    simp only [leI, Function.comp, decide_eq_true_eq]
    omega
  rw [List.mergeSort_of_pairwise hs] at e
  rw [show (fun x y : Int => decide (x ≤ y)) = leI from rfl, e, gD_keys]
  simp [ints]

/-- homes, at every group. -/
theorem homes_any {w : World} {b : Nat} {g : Grp} (h : IsGrp w b g) (hn : g.length < 1000000) :
    Calls Tryz.prog 39 #[.map (some b)] w fun e w' => ∃ v, e = .returned v ∧ Row w' 3 1 v g.length (ints (gkeys g)) ∧ Keep (fun _ => False) w w' ∧ (∀ k, v.ownBlock = some k → w.heap.size ≤ k) := by
  refine (homes_raw b _ (gD g) secR w h.own (by rw [gD_size]; unfold maxLen; omega) (by rw [gD_size]; omega)).mono ?_
  rintro e w' ⟨v, ss, rfl, hp, hrow, _, hb⟩
  rw [keys_sorted h.ok hp] at hrow
  have hl : ss.length = g.length := by
    have := hp.length_eq
    rw [this, gD_keys]; simp [gkeys]
  rw [hl] at hrow
  exact ⟨v, rfl, Row.of_owns hrow, Keep.of_below hb, fun k hk => (hrow.lt k hk).1⟩

end Go.Proofs.YtibmillfankjfaaGreatDoor
