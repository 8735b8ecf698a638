/- FileBytes (P5.2): the tied card: whatever a file has, its sixty-four bytes make it again. The condition: the variable that the row names lies as the program's text lays it. -/
import Derived.Test.YtdkigiemhkoijaaDoorFileBytes
import Derived.Test.YtdkigiemhkoijaaDoorTie
import Derived.Test.YtdkigiemhkoijaaDoorCards
import Derived.SevenTiedAt
namespace Go.Proofs.YtdkigiemhkoijaaDoor
open Go.ChangeShapes Go.WideShapes Go.ChangeAt Go.RowKit

theorem Tryd.gHeads : Tryd.prog.globalNamed "lychgate/inode.heads" = some 0 := by kernel_rfl
theorem Tryd.tHeads : (Tryd.prog.globals[0]?).map (·.type) = some 65 := by kernel_rfl
theorem Tryd.cellsInt5 : Tryd.prog.cellsOf 3 = 1 := by kernel_rfl
theorem Tryd.cellsHeads : Tryd.prog.cellsOf 65 = 10 := by kernel_rfl

set_option maxRecDepth 100000 in
theorem heads_of_laid {W : World} (h : laidMetH Tryd.prog laidHeads W) : Ino.HeadsAt W := by
  rw [MakeChecks.laidMetH_plain _ _ _ (by kernel_rfl)] at h
  have hT := Lib.tabIs_of_head (k := .i64) (zs := [0, 1, 2, 3, 4, 5, 6, 7, 200, 202]) (rest := []) Tryd.gHeads Tryd.tHeads Tryd.underlying65 Tryd.underlying3 Tryd.cellsInt5 Tryd.cellsHeads h
  intro i v hv
  have hi : i < 10 := by have := (List.getElem?_eq_some_iff.1 hv).1; simpa [Ino.headCells, Ino.headsL] using this
  have hc := hT.cell Tryd.gHeads i (by simpa using hi)
  rw [Nat.zero_add, hc, ← hv]
  match i, hi with
  | 0, _ => rfl
  | 1, _ => rfl
  | 2, _ => rfl
  | 3, _ => rfl
  | 4, _ => rfl
  | 5, _ => rfl
  | 6, _ => rfl
  | 7, _ => rfl
  | 8, _ => rfl
  | 9, _ => rfl

set_option maxRecDepth 100000 in
theorem fileBytes_lifted (os : Os) (started : os.Started) (H : Type) (enc : TypeId × Value → H) :
    ReturnsInHanded {} Tryd.checked os 3 .any (fun w args => (Rows.fileBytesSpec.pre enc Tryd.prog Tryd.f3 [] false w args ∧ laidMetH Tryd.prog laidHeads w) ∧ sizedMet enc Tryd.prog Tryd.f3 (OpenSpec.ofChange Rows.fileBytesSpec) false w args)
      (Rows.fileBytesSpec.post enc Tryd.prog Tryd.f3 false true false false) := by
  refine returnsInHanded_of_change_and (C := Tryd.checked) (X := fun w _ => laidMetH Tryd.prog laidHeads w) (fun _ _ _ hh h => h.of_heap hh) Tryd.own5 started (by kernel_rfl) Tryd.func3
    (ChangeSpec.witness_shaped (enc := enc) (C := Tryd.checked) (os := os) (X := fun w _ => laidMetH Tryd.prog laidHeads w) false (World.doorLaid Tryd.prog 14 os) #[.slice none 0 0] 8 rfl (World.shaped_of_RefB (by kernel_rfl) (by kernel_rfl)) (by kernel_rfl) (by kernel_rfl) (by kernel_rfl) (door_met5 os _)) ?_
  intro W base args ds gs before hval0 hW _ _ hL _
  have hval : ∀ (j : Nat) t v, Tryd.f3.params[j]? = some t → args[j]? = some v → Value.okWide Tryd.prog W .any base t v := hval0
  have hW' := hW
  obtain ⟨p, q, hA0, hV, rfl, hfz, hnd⟩ := hW
  have hA : DataW.TrodAll enc Tryd.prog W 0 (fun _ => true) true Tryd.f3.params.toList args.toList ds p := hA0
  have hA1 := hA
  rw [Tryd.params3] at hA hval
  obtain ⟨v0, d0, rfl, rfl, h0⟩ := trodAll_one hA
  obtain ⟨rfl, rfl⟩ := trodVars_none hV
  obtain ⟨l, hO, hlz⟩ := arg_ints (hval 0 22 v0 rfl rfl) h0
  have hlt : ∀ x ∈ p, x.block < W.heap.size := fun x hx => hW'.lt x (List.mem_append_left _ hx)
  clear hA0 hval0
  refine (Ino.fileBytes_any (heads_of_laid hL) hO hlz).mono fun e W' ⟨he, hk⟩ => ?_
  subst he
  refine ⟨_, rfl, _, _, _, [], p, [], hW', trodAll_cons_mk (shut_bool Tryd.underlying4 _) trodAll_mk0, ?_, rfl, hk.below0.frame _, fun h => by cases h⟩
  refine trodAll_stays Tryd.laidOut5 hk.below0 _ (fun t ht => ?_) _ _ _ hA1 hlt
  rw [Tryd.params3] at ht
  simp only [List.mem_cons, List.not_mem_nil, or_false] at ht
  obtain rfl := ht
  exact ⟨by kernel_rfl, of_decide_eq_true (by kernel_rfl)⟩

theorem fileBytes_row_holds : Rows.FileBytesSaid :=
  OpenClaim.holds_of_wide 3 Tryd.f3 rfl rfl rfl rfl rfl rfl rfl ⟨rfl, rfl, rfl, rfl, rfl⟩ rfl rfl rfl rfl rfl (by kernel_rfl) Tryd.func3 (by kernel_rfl)
    (of_decide_eq_true (by kernel_rfl)) (by unfold Func.isWrapper; first | (rw [if_pos (by decide +kernel)]; kernel_rfl) | (rw [if_neg (by decide +kernel)]; exact ⟨rfl, rfl⟩))
    (fun os started H enc _ => fileBytes_lifted os started H enc)

theorem fileBytes_holds : Rows.FileBytesCardSaid :=
  Claim7.holds_tied_plain_at .later [] [.data] true Rows.fileBytesCard.stood.harness Rows.fileBytesCard.stood.looks
    fileBytes_row_holds (fun _ h => by cases h) (by kernel_rfl) (fun _ h => by cases h) fileBytes_row_tie rfl ⟨rfl, rfl⟩ (by kernel_rfl) rfl
    (fun f fn hf hfn => by
      obtain rfl : f = 3 := Option.some.inj ((show Tryd.prog.funcNamed "lychgate/lychgatelaw5.FileBytes" = some 3 by kernel_rfl).symm.trans hf) |>.symm
      obtain rfl : fn = Tryd.f3 := (Option.some.inj (Tryd.func3.symm.trans hfn)).symm
      exact ⟨by kernel_rfl, fun j t ht => by
        rw [Tryd.params3] at ht
        have hm : t ∈ [22] := by simpa using Array.mem_of_getElem? ht
        have hall : ([22].all fun u => !Tryd.prog.wantsStandIn u) = true := by kernel_rfl
        exact (show Tryd.prog.wantsStandIn t = false by simpa using List.all_eq_true.1 hall t hm)⟩)
    (by kernel_rfl)
end Go.Proofs.YtdkigiemhkoijaaDoor
