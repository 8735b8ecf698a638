/- World files: a row out of a reader (made by tools/gendr.py). -/
import Derived.Test.YtcodbomgodkcmaaGreatDoorDbU
import Derived.Test.YtcodbomgodkcmaaGreatDoorCdW
import Derived.Test.YtcodbomgodkcmaaGreatDoorDbG
namespace Go.Proofs.YtcodbomgodkcmaaGreatDoor.Wd
open Go.RowKit Go.Maps Go.Proofs.YtcodbomgodkcmaaGreatDoor Go.Proofs.YtcodbomgodkcmaaGreatDoor.Lin
set_option maxRecDepth 100000

theorem Tryz.infoRdProto : (Tryz.prog.info? 78).map (·.size) = some 5 := by kernel_rfl
set_option maxHeartbeats 2000000 in
theorem rdProto_any {w : World} {B : Nat → Prop} {p : Nat} {r : List ByteArray} (h : RdAt w p r) (hs : ShortW r) (hT : T12B B w) (hp : B p) (hl : r.length ≤ 1000000) :
    Calls Tryz.prog 45 #[.pointer (some ⟨p, 0, none⟩)] w fun e w' => e = .returned (.agg (protoC (protoP r)).toArray) ∧ RdAt w' p (r.drop 5) ∧ Keep (fun b => b = p) w w' := by
  have k0 : Keep (fun _ => False) w (w.alloc (.cells #[.int .i64 0, .string ⟨#[]⟩, .int .i64 0, .int .i64 0, .int .i64 0] 78)) := (Keep.refl _ w).alloc _
  have HG := Lib.hid h.lt
  have R := Lib.hid (h.keep0 k0); have SH := Lib.hid hs; have T := Lib.hid (hT.keep k0 (fun _ h => h.elim)); have HP := Lib.hid hp; have HL := Lib.hid hl
  have K : Hid (Keep (fun b => b = p) (w.alloc (.cells #[.int .i64 0, .string ⟨#[]⟩, .int .i64 0, .int .i64 0, .int .i64 0] 78)) (w.alloc (.cells #[.int .i64 0, .string ⟨#[]⟩, .int .i64 0, .int .i64 0, .int .i64 0] 78))) := Lib.hid (Keep.refl _ _)
  have HN0 := Lib.hid (heap_alloc_new w (.cells #[.int .i64 0, .string ⟨#[]⟩, .int .i64 0, .int .i64 0, .int .i64 0] 78))
  have HSZ : Hid ((w.alloc (.cells #[.int .i64 0, .string ⟨#[]⟩, .int .i64 0, .int .i64 0, .int .i64 0] 78)).heap.size = w.heap.size + 1) := Lib.hid (World.size_alloc ..)
  have HK0 := Lib.hid k0
  have HI : Hid ((Tryz.prog.info? 78).map (·.size) = some 5) := Lib.hid Tryz.infoRdProto
  clear h hs hT hp hl k0
  go_enter Tryz.func45, Tryz.ntmps45
  go_wp2_with (first
    | (go_at_call 96; (with_reducible refine (rdId_any R.out SH.out T.out HP.out).mono ?_); rintro e w1 ⟨rfl, r1, k1⟩; have T := Lib.hid (T.out.keep k1 (fun b hb => hb ▸ HP.out)); have K := Lib.hid (K.out.trans k1 (fun b hb => .inl hb)); have R := Lib.hid r1; have SH := Lib.hid (SH.out.drop 1); clear r1 k1)
    | (go_at_call 97; (with_reducible refine (rdName_any R.out SH.out).mono ?_); rintro e w1 ⟨rfl, r1, k1⟩; have T := Lib.hid (T.out.keep k1 (fun b hb => hb ▸ HP.out)); have K := Lib.hid (K.out.trans k1 (fun b hb => .inl hb)); have R := Lib.hid r1; have SH := Lib.hid (SH.out.drop 1); clear r1 k1)
    | (go_at_call 106; (with_reducible refine (rdSlot_any R.out).mono ?_); rintro e w1 ⟨rfl, r1, k1⟩; have T := Lib.hid (T.out.keep k1 (fun b hb => hb ▸ HP.out)); have K := Lib.hid (K.out.trans k1 (fun b hb => .inl hb)); have R := Lib.hid r1; have SH := Lib.hid (SH.out.drop 1); clear r1 k1)
    | (go_at_call 99; (with_reducible refine (rdNumber_any R.out SH.out T.out HP.out).mono ?_); rintro e w1 ⟨rfl, r1, k1⟩; have T := Lib.hid (T.out.keep k1 (fun b hb => hb ▸ HP.out)); have K := Lib.hid (K.out.trans k1 (fun b hb => .inl hb)); have R := Lib.hid r1; have SH := Lib.hid (SH.out.drop 1); clear r1 k1)
    | (refine Cd.wpList_store_arr HI.out (by rfl) (by simp [Value.oneCell']) rfl (.tmp 2) (.tmp 13) rfl w.heap.size rfl rfl ((K.out.block _ (by have := HSZ.out; omega) (by have := HG.out; omega)).trans HN0.out) ?_; intro ws hws kss hss; have HW := Lib.hid hws; have HKS := Lib.hid kss; clear hws kss hss))
  refine bodyPost_ret (Cd.results_arr1 Tryz.results45 _ _ w.heap.size rfl HW.out Tryz.underlying78 rfl HI.out) rfl ?_
  have KS := HKS.out
  have hres : w1.heap[w.heap.size]? = some (.cells #[.int .i64 0, .string ⟨#[]⟩, .int .i64 0, .int .i64 0, .int .i64 0] 78 (0, 0)) := (K.out.block _ (by have := HSZ.out; omega) (by have := HG.out; omega)).trans HN0.out
  have hrd := R.out.keepT KS (fun b cs t f hf e => by
    subst hf
    rw [hres] at e
    simp only [Option.some.injEq, Obj.cells.injEq] at e
    obtain ⟨_, rfl, _⟩ := e
    exact ⟨by decide, by decide⟩)
  have hkk : Keep (fun b => b = p) w ws := ((HK0.out.mono (fun _ _ h => h.elim)).trans K.out (fun b hb => .inl hb)).trans KS (fun b e => .inr (by omega))
  refine ⟨?_, by simpa [List.drop_drop] using hrd, hkk⟩
  simp only [protoC, protoP, ← List.drop_one, atW_drop, Nat.reduceAdd]

theorem Tryz.infoRdMob : (Tryz.prog.info? 80).map (·.size) = some 7 := by kernel_rfl
set_option maxHeartbeats 2000000 in
theorem rdMob_any {w : World} {B : Nat → Prop} {p : Nat} {r : List ByteArray} (h : RdAt w p r) (hs : ShortW r) (hT : T12B B w) (hp : B p) (hl : r.length ≤ 1000000) :
    Calls Tryz.prog 48 #[.pointer (some ⟨p, 0, none⟩)] w fun e w' => e = .returned (.agg (mobpC (mobP r)).toArray) ∧ RdAt w' p (r.drop 7) ∧ Keep (fun b => b = p) w w' := by
  have k0 : Keep (fun _ => False) w (w.alloc (.cells #[.int .i64 0, .string ⟨#[]⟩, .int .i64 0, .int .i64 0, .int .i64 0, .int .i64 0, .int .i64 0] 80)) := (Keep.refl _ w).alloc _
  have HG := Lib.hid h.lt
  have R := Lib.hid (h.keep0 k0); have SH := Lib.hid hs; have T := Lib.hid (hT.keep k0 (fun _ h => h.elim)); have HP := Lib.hid hp; have HL := Lib.hid hl
  have K : Hid (Keep (fun b => b = p) (w.alloc (.cells #[.int .i64 0, .string ⟨#[]⟩, .int .i64 0, .int .i64 0, .int .i64 0, .int .i64 0, .int .i64 0] 80)) (w.alloc (.cells #[.int .i64 0, .string ⟨#[]⟩, .int .i64 0, .int .i64 0, .int .i64 0, .int .i64 0, .int .i64 0] 80))) := Lib.hid (Keep.refl _ _)
  have HN0 := Lib.hid (heap_alloc_new w (.cells #[.int .i64 0, .string ⟨#[]⟩, .int .i64 0, .int .i64 0, .int .i64 0, .int .i64 0, .int .i64 0] 80))
  have HSZ : Hid ((w.alloc (.cells #[.int .i64 0, .string ⟨#[]⟩, .int .i64 0, .int .i64 0, .int .i64 0, .int .i64 0, .int .i64 0] 80)).heap.size = w.heap.size + 1) := Lib.hid (World.size_alloc ..)
  have HK0 := Lib.hid k0
  have HI : Hid ((Tryz.prog.info? 80).map (·.size) = some 7) := Lib.hid Tryz.infoRdMob
  clear h hs hT hp hl k0
  go_enter Tryz.func48, Tryz.ntmps48
  go_wp2_with (first
    | (go_at_call 96; (with_reducible refine (rdId_any R.out SH.out T.out HP.out).mono ?_); rintro e w1 ⟨rfl, r1, k1⟩; have T := Lib.hid (T.out.keep k1 (fun b hb => hb ▸ HP.out)); have K := Lib.hid (K.out.trans k1 (fun b hb => .inl hb)); have R := Lib.hid r1; have SH := Lib.hid (SH.out.drop 1); clear r1 k1)
    | (go_at_call 97; (with_reducible refine (rdName_any R.out SH.out).mono ?_); rintro e w1 ⟨rfl, r1, k1⟩; have T := Lib.hid (T.out.keep k1 (fun b hb => hb ▸ HP.out)); have K := Lib.hid (K.out.trans k1 (fun b hb => .inl hb)); have R := Lib.hid r1; have SH := Lib.hid (SH.out.drop 1); clear r1 k1)
    | (go_at_call 99; (with_reducible refine (rdNumber_any R.out SH.out T.out HP.out).mono ?_); rintro e w1 ⟨rfl, r1, k1⟩; have T := Lib.hid (T.out.keep k1 (fun b hb => hb ▸ HP.out)); have K := Lib.hid (K.out.trans k1 (fun b hb => .inl hb)); have R := Lib.hid r1; have SH := Lib.hid (SH.out.drop 1); clear r1 k1)
    | (refine Cd.wpList_store_arr HI.out (by rfl) (by simp [Value.oneCell']) rfl (.tmp 2) (.tmp 17) rfl w.heap.size rfl rfl ((K.out.block _ (by have := HSZ.out; omega) (by have := HG.out; omega)).trans HN0.out) ?_; intro ws hws kss hss; have HW := Lib.hid hws; have HKS := Lib.hid kss; clear hws kss hss))
  refine bodyPost_ret (Cd.results_arr1 Tryz.results48 _ _ w.heap.size rfl HW.out Tryz.underlying80 rfl HI.out) rfl ?_
  have KS := HKS.out
  have hres : w1.heap[w.heap.size]? = some (.cells #[.int .i64 0, .string ⟨#[]⟩, .int .i64 0, .int .i64 0, .int .i64 0, .int .i64 0, .int .i64 0] 80 (0, 0)) := (K.out.block _ (by have := HSZ.out; omega) (by have := HG.out; omega)).trans HN0.out
  have hrd := R.out.keepT KS (fun b cs t f hf e => by
    subst hf
    rw [hres] at e
    simp only [Option.some.injEq, Obj.cells.injEq] at e
    obtain ⟨_, rfl, _⟩ := e
    exact ⟨by decide, by decide⟩)
  have hkk : Keep (fun b => b = p) w ws := ((HK0.out.mono (fun _ _ h => h.elim)).trans K.out (fun b hb => .inl hb)).trans KS (fun b e => .inr (by omega))
  refine ⟨?_, by simpa [List.drop_drop] using hrd, hkk⟩
  simp only [mobpC, mobP, ← List.drop_one, atW_drop, Nat.reduceAdd]

theorem Tryz.infoRdRec : (Tryz.prog.info? 83).map (·.size) = some 2 := by kernel_rfl
set_option maxHeartbeats 2000000 in
theorem rdRec_any {w : World} {B : Nat → Prop} {p : Nat} {r : List ByteArray} (h : RdAt w p r) (hs : ShortW r) (hT : T12B B w) (hp : B p) (hl : r.length ≤ 1000000) :
    Calls Tryz.prog 51 #[.pointer (some ⟨p, 0, none⟩)] w fun e w' => ∃ v, e = .returned (.agg (recC (recP r, v)).toArray) ∧ Row w' 3 1 v (recP r).needs.length (icells (recP r).needs) ∧ (∀ b, v.ownBlock = some b → w.heap.size ≤ b) ∧ RdAt w' p [] ∧ Keep (fun b => b = p) w w' := by
  have k0 : Keep (fun _ => False) w (w.alloc (.cells #[.int .i64 0, .slice none 0 0] 83)) := (Keep.refl _ w).alloc _
  have HG := Lib.hid h.lt
  have R := Lib.hid (h.keep0 k0); have SH := Lib.hid hs; have T := Lib.hid (hT.keep k0 (fun _ h => h.elim)); have HP := Lib.hid hp; have HL := Lib.hid hl
  have K : Hid (Keep (fun b => b = p) (w.alloc (.cells #[.int .i64 0, .slice none 0 0] 83)) (w.alloc (.cells #[.int .i64 0, .slice none 0 0] 83))) := Lib.hid (Keep.refl _ _)
  have HN0 := Lib.hid (heap_alloc_new w (.cells #[.int .i64 0, .slice none 0 0] 83))
  have HSZ : Hid ((w.alloc (.cells #[.int .i64 0, .slice none 0 0] 83)).heap.size = w.heap.size + 1) := Lib.hid (World.size_alloc ..)
  have HK0 := Lib.hid k0
  have HI : Hid ((Tryz.prog.info? 83).map (·.size) = some 2) := Lib.hid Tryz.infoRdRec
  clear h hs hT hp hl k0
  go_enter Tryz.func51, Tryz.ntmps51
  go_wp2_with (first
    | (go_at_call 96; (with_reducible refine (rdId_any R.out SH.out T.out HP.out).mono ?_); rintro e w1 ⟨rfl, r1, k1⟩; have T := Lib.hid (T.out.keep k1 (fun b hb => hb ▸ HP.out)); have K := Lib.hid (K.out.trans k1 (fun b hb => .inl hb)); have R := Lib.hid r1; have SH := Lib.hid (SH.out.drop 1); clear r1 k1)
    | (go_at_call 109; (with_reducible refine (rdIds_any R.out SH.out T.out HP.out (by have := HL.out; simp only [List.length_drop]; omega)).mono ?_); rintro e w1 ⟨v, rfl, rw1, ow1, r1, k1⟩; have RW := Lib.hid rw1; have OW : Hid (∀ b, v.ownBlock = some b → w.heap.size ≤ b) := Lib.hid (fun b hb => Nat.le_trans (by have := K.out.size; have := HSZ.out; omega) (ow1 b hb)); have K := Lib.hid (K.out.trans k1 (fun b hb => .inl hb)); have R := Lib.hid r1; obtain ⟨va, vc, rfl, _, _⟩ := rw1.slice; clear r1 k1 rw1 ow1)
    | (refine Cd.wpList_store_arr HI.out (by rfl) (by simp [Value.oneCell']) rfl (.tmp 2) (.tmp 7) rfl w.heap.size rfl rfl ((K.out.block _ (by have := HSZ.out; omega) (by have := HG.out; omega)).trans HN0.out) ?_; intro ws hws kss hss; have HW := Lib.hid hws; have HKS := Lib.hid kss; clear hws kss hss))
  refine bodyPost_ret (Cd.results_arr1 Tryz.results51 _ _ w.heap.size rfl HW.out Tryz.underlying83 rfl HI.out) rfl ?_
  have KS := HKS.out
  have hres : w1.heap[w.heap.size]? = some (.cells #[.int .i64 0, .slice none 0 0] 83 (0, 0)) := (K.out.block _ (by have := HSZ.out; omega) (by have := HG.out; omega)).trans HN0.out
  have hrd := R.out.keepT KS (fun b cs t f hf e => by
    subst hf
    rw [hres] at e
    simp only [Option.some.injEq, Obj.cells.injEq] at e
    obtain ⟨_, rfl, _⟩ := e
    exact ⟨by decide, by decide⟩)
  have hkk : Keep (fun b => b = p) w ws := ((HK0.out.mono (fun _ _ h => h.elim)).trans K.out (fun b hb => .inl hb)).trans KS (fun b e => .inr (by omega))
  have hrow : Row ws 3 1 (.slice va (r.drop 1).length vc) (r.drop 1).length (icells ((r.drop 1).map rdn)) := RW.out.keep KS (fun b hb e => by
    obtain ⟨cs, f, e2⟩ := RW.out.type hb
    exact ty_ne' e2 hres (by decide) e)
  refine ⟨.slice va (r.drop 1).length vc, ?_, ?_, OW.out, hrd, hkk⟩
  · simp [recC, recP]
  · simpa [recP, List.drop_drop] using hrow

theorem Tryz.infoRdQuest : (Tryz.prog.info? 86).map (·.size) = some 5 := by kernel_rfl
set_option maxHeartbeats 2000000 in
theorem rdQuest_any {w : World} {B : Nat → Prop} {p : Nat} {r : List ByteArray} (h : RdAt w p r) (hs : ShortW r) (hT : T12B B w) (hp : B p) (hl : r.length ≤ 1000000) :
    Calls Tryz.prog 54 #[.pointer (some ⟨p, 0, none⟩)] w fun e w' => e = .returned (.agg (questC (questP r)).toArray) ∧ RdAt w' p (r.drop 5) ∧ Keep (fun b => b = p) w w' := by
  have k0 : Keep (fun _ => False) w (w.alloc (.cells #[.int .i64 0, .int .i64 0, .int .i64 0, .int .i64 0, .int .i64 0] 86)) := (Keep.refl _ w).alloc _
  have HG := Lib.hid h.lt
  have R := Lib.hid (h.keep0 k0); have SH := Lib.hid hs; have T := Lib.hid (hT.keep k0 (fun _ h => h.elim)); have HP := Lib.hid hp; have HL := Lib.hid hl
  have K : Hid (Keep (fun b => b = p) (w.alloc (.cells #[.int .i64 0, .int .i64 0, .int .i64 0, .int .i64 0, .int .i64 0] 86)) (w.alloc (.cells #[.int .i64 0, .int .i64 0, .int .i64 0, .int .i64 0, .int .i64 0] 86))) := Lib.hid (Keep.refl _ _)
  have HN0 := Lib.hid (heap_alloc_new w (.cells #[.int .i64 0, .int .i64 0, .int .i64 0, .int .i64 0, .int .i64 0] 86))
  have HSZ : Hid ((w.alloc (.cells #[.int .i64 0, .int .i64 0, .int .i64 0, .int .i64 0, .int .i64 0] 86)).heap.size = w.heap.size + 1) := Lib.hid (World.size_alloc ..)
  have HK0 := Lib.hid k0
  have HI : Hid ((Tryz.prog.info? 86).map (·.size) = some 5) := Lib.hid Tryz.infoRdQuest
  clear h hs hT hp hl k0
  go_enter Tryz.func54, Tryz.ntmps54
  go_wp2_with (first
    | (go_at_call 96; (with_reducible refine (rdId_any R.out SH.out T.out HP.out).mono ?_); rintro e w1 ⟨rfl, r1, k1⟩; have T := Lib.hid (T.out.keep k1 (fun b hb => hb ▸ HP.out)); have K := Lib.hid (K.out.trans k1 (fun b hb => .inl hb)); have R := Lib.hid r1; have SH := Lib.hid (SH.out.drop 1); clear r1 k1)
    | (go_at_call 99; (with_reducible refine (rdNumber_any R.out SH.out T.out HP.out).mono ?_); rintro e w1 ⟨rfl, r1, k1⟩; have T := Lib.hid (T.out.keep k1 (fun b hb => hb ▸ HP.out)); have K := Lib.hid (K.out.trans k1 (fun b hb => .inl hb)); have R := Lib.hid r1; have SH := Lib.hid (SH.out.drop 1); clear r1 k1)
    | (refine Cd.wpList_store_arr HI.out (by rfl) (by simp [Value.oneCell']) rfl (.tmp 2) (.tmp 13) rfl w.heap.size rfl rfl ((K.out.block _ (by have := HSZ.out; omega) (by have := HG.out; omega)).trans HN0.out) ?_; intro ws hws kss hss; have HW := Lib.hid hws; have HKS := Lib.hid kss; clear hws kss hss))
  refine bodyPost_ret (Cd.results_arr1 Tryz.results54 _ _ w.heap.size rfl HW.out Tryz.underlying86 rfl HI.out) rfl ?_
  have KS := HKS.out
  have hres : w1.heap[w.heap.size]? = some (.cells #[.int .i64 0, .int .i64 0, .int .i64 0, .int .i64 0, .int .i64 0] 86 (0, 0)) := (K.out.block _ (by have := HSZ.out; omega) (by have := HG.out; omega)).trans HN0.out
  have hrd := R.out.keepT KS (fun b cs t f hf e => by
    subst hf
    rw [hres] at e
    simp only [Option.some.injEq, Obj.cells.injEq] at e
    obtain ⟨_, rfl, _⟩ := e
    exact ⟨by decide, by decide⟩)
  have hkk : Keep (fun b => b = p) w ws := ((HK0.out.mono (fun _ _ h => h.elim)).trans K.out (fun b hb => .inl hb)).trans KS (fun b e => .inr (by omega))
  refine ⟨?_, by simpa [List.drop_drop] using hrd, hkk⟩
  simp only [questC, questP, ← List.drop_one, atW_drop, Nat.reduceAdd]

theorem Tryz.infoRdShop : (Tryz.prog.info? 88).map (·.size) = some 3 := by kernel_rfl
set_option maxHeartbeats 2000000 in
theorem rdShop_any {w : World} {B : Nat → Prop} {p : Nat} {r : List ByteArray} (h : RdAt w p r) (hs : ShortW r) (hT : T12B B w) (hp : B p) (hl : r.length ≤ 1000000) :
    Calls Tryz.prog 57 #[.pointer (some ⟨p, 0, none⟩)] w fun e w' => ∃ v, e = .returned (.agg (shopC (shopP r, v)).toArray) ∧ Row w' 3 1 v (shopP r).items.length (icells (shopP r).items) ∧ (∀ b, v.ownBlock = some b → w.heap.size ≤ b) ∧ RdAt w' p [] ∧ Keep (fun b => b = p) w w' := by
  have k0 : Keep (fun _ => False) w (w.alloc (.cells #[.int .i64 0, .int .i64 0, .slice none 0 0] 88)) := (Keep.refl _ w).alloc _
  have HG := Lib.hid h.lt
  have R := Lib.hid (h.keep0 k0); have SH := Lib.hid hs; have T := Lib.hid (hT.keep k0 (fun _ h => h.elim)); have HP := Lib.hid hp; have HL := Lib.hid hl
  have K : Hid (Keep (fun b => b = p) (w.alloc (.cells #[.int .i64 0, .int .i64 0, .slice none 0 0] 88)) (w.alloc (.cells #[.int .i64 0, .int .i64 0, .slice none 0 0] 88))) := Lib.hid (Keep.refl _ _)
  have HN0 := Lib.hid (heap_alloc_new w (.cells #[.int .i64 0, .int .i64 0, .slice none 0 0] 88))
  have HSZ : Hid ((w.alloc (.cells #[.int .i64 0, .int .i64 0, .slice none 0 0] 88)).heap.size = w.heap.size + 1) := Lib.hid (World.size_alloc ..)
  have HK0 := Lib.hid k0
  have HI : Hid ((Tryz.prog.info? 88).map (·.size) = some 3) := Lib.hid Tryz.infoRdShop
  clear h hs hT hp hl k0
  go_enter Tryz.func57, Tryz.ntmps57
  go_wp2_with (first
    | (go_at_call 96; (with_reducible refine (rdId_any R.out SH.out T.out HP.out).mono ?_); rintro e w1 ⟨rfl, r1, k1⟩; have T := Lib.hid (T.out.keep k1 (fun b hb => hb ▸ HP.out)); have K := Lib.hid (K.out.trans k1 (fun b hb => .inl hb)); have R := Lib.hid r1; have SH := Lib.hid (SH.out.drop 1); clear r1 k1)
    | (go_at_call 99; (with_reducible refine (rdNumber_any R.out SH.out T.out HP.out).mono ?_); rintro e w1 ⟨rfl, r1, k1⟩; have T := Lib.hid (T.out.keep k1 (fun b hb => hb ▸ HP.out)); have K := Lib.hid (K.out.trans k1 (fun b hb => .inl hb)); have R := Lib.hid r1; have SH := Lib.hid (SH.out.drop 1); clear r1 k1)
    | (go_at_call 109; (with_reducible refine (rdIds_any R.out SH.out T.out HP.out (by have := HL.out; simp only [List.length_drop]; omega)).mono ?_); rintro e w1 ⟨v, rfl, rw1, ow1, r1, k1⟩; have RW := Lib.hid rw1; have OW : Hid (∀ b, v.ownBlock = some b → w.heap.size ≤ b) := Lib.hid (fun b hb => Nat.le_trans (by have := K.out.size; have := HSZ.out; omega) (ow1 b hb)); have K := Lib.hid (K.out.trans k1 (fun b hb => .inl hb)); have R := Lib.hid r1; obtain ⟨va, vc, rfl, _, _⟩ := rw1.slice; clear r1 k1 rw1 ow1)
    | (refine Cd.wpList_store_arr HI.out (by rfl) (by simp [Value.oneCell']) rfl (.tmp 2) (.tmp 9) rfl w.heap.size rfl rfl ((K.out.block _ (by have := HSZ.out; omega) (by have := HG.out; omega)).trans HN0.out) ?_; intro ws hws kss hss; have HW := Lib.hid hws; have HKS := Lib.hid kss; clear hws kss hss))
  refine bodyPost_ret (Cd.results_arr1 Tryz.results57 _ _ w.heap.size rfl HW.out Tryz.underlying88 rfl HI.out) rfl ?_
  have KS := HKS.out
  have hres : w1.heap[w.heap.size]? = some (.cells #[.int .i64 0, .int .i64 0, .slice none 0 0] 88 (0, 0)) := (K.out.block _ (by have := HSZ.out; omega) (by have := HG.out; omega)).trans HN0.out
  have hrd := R.out.keepT KS (fun b cs t f hf e => by
    subst hf
    rw [hres] at e
    simp only [Option.some.injEq, Obj.cells.injEq] at e
    obtain ⟨_, rfl, _⟩ := e
    exact ⟨by decide, by decide⟩)
  have hkk : Keep (fun b => b = p) w ws := ((HK0.out.mono (fun _ _ h => h.elim)).trans K.out (fun b hb => .inl hb)).trans KS (fun b e => .inr (by omega))
  have hrow : Row ws 3 1 (.slice va ((r.drop 1).drop 1).length vc) ((r.drop 1).drop 1).length (icells (((r.drop 1).drop 1).map rdn)) := RW.out.keep KS (fun b hb e => by
    obtain ⟨cs, f, e2⟩ := RW.out.type hb
    exact ty_ne' e2 hres (by decide) e)
  refine ⟨.slice va ((r.drop 1).drop 1).length vc, ?_, ?_, OW.out, hrd, hkk⟩
  · simp [shopC, shopP, ← List.drop_one, atW_drop]
  · simpa [shopP, List.drop_drop] using hrow
end Go.Proofs.YtcodbomgodkcmaaGreatDoor.Wd
/- World files: a room out of a reader. -/
namespace Go.Proofs.YtcodbomgodkcmaaGreatDoor.Wd
open Go.RowKit Go.Maps Go.Proofs.YtcodbomgodkcmaaGreatDoor Go.Proofs.YtcodbomgodkcmaaGreatDoor.Lin
set_option maxRecDepth 100000

abbrev zRoomC : Array Value := #[.int .i64 0, .string ⟨#[]⟩, .int .i64 0, .int .i64 0, .int .i64 0, .int .i64 0, .int .i64 0, .int .i64 0, .int .i64 0, .int .i64 0]
/-- While a room's exits are read. -/
structure RxR (p : Nat) (r : List ByteArray) (id : Int) (name : ByteArray) (kind price : Int) (e : List Int) (N b : Nat) (w0 : World) (jv : Value) (wr : World) : Prop where
  ex : ∃ j : Nat, j ≤ 6 ∧ jv = .int .i64 (j : Int) ∧ wr.heap[b]? = some (.cells (roomC (roomJ id name kind price e j)).toArray 53 (0, 0)) ∧ wr.heap[N]? = some (.cells zRoomC 53 (0, 0)) ∧ RdAt wr p (r.drop (4 + j)) ∧ Keep (fun x => x = p) w0 wr
def ex6 (r : List ByteArray) : List Int := [rdn (atW r 4), rdn (atW r 5), rdn (atW r 6), rdn (atW r 7), rdn (atW r 8), rdn (atW r 9)]
theorem ex6_get (r : List ByteArray) {j : Nat} (h : j < 6) : (ex6 r).getD j 0 = rdn (atW (r.drop (4 + j)) 0) := by
  rw [atW_drop]
  match j, h with
  | 0, _ => rfl
  | 1, _ => rfl
  | 2, _ => rfl
  | 3, _ => rfl
  | 4, _ => rfl
  | 5, _ => rfl
  | j + 6, h => omega
theorem exit_there (x : RoomM) {j : Nat} (h : j < 6) : ∃ u, (roomC x).toArray[4 + j]? = some u := ⟨_, Array.getElem?_eq_getElem (by simp [roomC]; omega)⟩
theorem zRdRoom : ∃ Z : Array Value, Hid (∀ w : World, (zeroValue 53).run Tryz.prog w = .ok (.agg Z) w) ∧ Hid (Z.size = 10) := ⟨zRoomC, Lib.hid (fun w => by kernel_rfl), Lib.hid rfl⟩
theorem Tryz.infoRdRoom : (Tryz.prog.info? 53).map (·.size) = some 10 := by kernel_rfl
set_option maxHeartbeats 4000000 in
theorem rdRoom_any {w : World} {B : Nat → Prop} {p : Nat} {r : List ByteArray} (h : RdAt w p r) (hs : ShortW r) (hT : T12B B w) (hp : B p) :
    Calls Tryz.prog 42 #[.pointer (some ⟨p, 0, none⟩)] w fun e w' => e = .returned (.agg (roomC (roomP r)).toArray) ∧ RdAt w' p (r.drop 10) ∧ Keep (fun b => b = p) w w' := by
  have k0 : Keep (fun _ => False) w (w.alloc (.cells zRoomC 53)) := (Keep.refl _ w).alloc _
  have HG := Lib.hid h.lt
  have R := Lib.hid (h.keep0 k0); have SH := Lib.hid hs; have SH0 := Lib.hid hs; have T := Lib.hid (hT.keep k0 (fun _ h => h.elim)); have T0 := Lib.hid hT; have HP := Lib.hid hp
  have K : Hid (Keep (fun b => b = p) (w.alloc (.cells zRoomC 53)) (w.alloc (.cells zRoomC 53))) := Lib.hid (Keep.refl _ _)
  have HN0 := Lib.hid (heap_alloc_new w (.cells zRoomC 53))
  have HSZ : Hid ((w.alloc (.cells zRoomC 53)).heap.size = w.heap.size + 1) := Lib.hid (World.size_alloc ..)
  have HK0 := Lib.hid k0
  have HI : Hid ((Tryz.prog.info? 53).map (·.size) = some 10) := Lib.hid Tryz.infoRdRoom
  obtain ⟨Z, HZ, HZS⟩ := zRdRoom
  clear h hs hT hp k0
  go_enter Tryz.func42, Tryz.ntmps42
  go_wp2_with (first
    | (go_at_call 96; (with_reducible refine (rdId_any R.out SH.out T.out HP.out).mono ?_); rintro e w1 ⟨rfl, r1, k1⟩; have T := Lib.hid (T.out.keep k1 (fun b hb => hb ▸ HP.out)); have K := Lib.hid (K.out.trans k1 (fun b hb => .inl hb)); have R := Lib.hid r1; have SH := Lib.hid (SH.out.drop 1); clear r1 k1)
    | (go_at_call 97; (with_reducible refine (rdName_any R.out SH.out).mono ?_); simp only [atW_drop, Nat.reduceAdd]; rintro e w1 ⟨rfl, r1, k1⟩; have T := Lib.hid (T.out.keep k1 (fun b hb => hb ▸ HP.out)); have K := Lib.hid (K.out.trans k1 (fun b hb => .inl hb)); have R := Lib.hid r1; have SH := Lib.hid (SH.out.drop 1); clear r1 k1)
    | (go_at_call 98; (with_reducible refine (rdKind_any R.out).mono ?_); simp only [atW_drop, Nat.reduceAdd]; rintro e w1 ⟨rfl, r1, k1⟩; have T := Lib.hid (T.out.keep k1 (fun b hb => hb ▸ HP.out)); have K := Lib.hid (K.out.trans k1 (fun b hb => .inl hb)); have R := Lib.hid r1; have SH := Lib.hid (SH.out.drop 1); clear r1 k1)
    | (go_at_call 99; (with_reducible refine (rdNumber_any R.out SH.out T.out HP.out).mono ?_); simp only [atW_drop, Nat.reduceAdd]; rintro e w1 ⟨rfl, r1, k1⟩; have T := Lib.hid (T.out.keep k1 (fun b hb => hb ▸ HP.out)); have K := Lib.hid (K.out.trans k1 (fun b hb => .inl hb)); have R := Lib.hid r1; have SH := Lib.hid (SH.out.drop 1); clear r1 k1))
  have HBX : Hid ((w1.alloc (.cells (roomC (roomJ (rdn (atW r 0)) (atW r 1) (kindF (atW r 2)) (rdn (atW r 3)) (ex6 r) 0)).toArray 53)).heap[w1.heap.size]? = some (.cells (roomC (roomJ (rdn (atW r 0)) (atW r 1) (kindF (atW r 2)) (rdn (atW r 3)) (ex6 r) 0)).toArray 53 (0, 0))) := Lib.hid (heap_alloc_new w1 _)
  have KA := Lib.hid (((HK0.out.mono (fun _ _ h => h.elim)).trans K.out (fun b hb => .inl hb)).alloc (.cells (roomC (roomJ (rdn (atW r 0)) (atW r 1) (kindF (atW r 2)) (rdn (atW r 3)) (ex6 r) 0)).toArray 53))
  have RA : Hid (RdAt (w1.alloc (.cells (roomC (roomJ (rdn (atW r 0)) (atW r 1) (kindF (atW r 2)) (rdn (atW r 3)) (ex6 r) 0)).toArray 53)) p (r.drop 4)) := Lib.hid (by
    have := R.out.keep0 ((Keep.refl (fun _ => False) w1).alloc (.cells (roomC (roomJ (rdn (atW r 0)) (atW r 1) (kindF (atW r 2)) (rdn (atW r 3)) (ex6 r) 0)).toArray 53))
    simpa only [List.drop_drop, Nat.reduceAdd] using this)
  have HNA : Hid ((w1.alloc (.cells (roomC (roomJ (rdn (atW r 0)) (atW r 1) (kindF (atW r 2)) (rdn (atW r 3)) (ex6 r) 0)).toArray 53)).heap[w.heap.size]? = some (.cells zRoomC 53 (0, 0))) := Lib.hid (by
    have h1 : w1.heap[w.heap.size]? = some (.cells zRoomC 53 (0, 0)) := (K.out.block _ (by have := HSZ.out; omega) (by have := HG.out; omega)).trans HN0.out
    exact (((Keep.refl (fun _ => False) w1).alloc _).block _ (lt_of_block h1) (fun h => h)).trans h1)
  have hW4 : w1.alloc (.cells #[.int .i64 (rdn (atW r 0)), .string (atW r 1), .int .i64 (kindF (atW r 2)), .int .i64 (rdn (atW r 3)), .int .i64 0, .int .i64 0, .int .i64 0, .int .i64 0, .int .i64 0, .int .i64 0] 53) = w1.alloc (.cells (roomC (roomJ (rdn (atW r 0)) (atW r 1) (kindF (atW r 2)) (rdn (atW r 3)) (ex6 r) 0)).toArray 53) := rfl
  have HBN : Hid (w.heap.size < w1.heap.size) := Lib.hid (by have := K.out.size; have := HSZ.out; omega)
  rw [hW4]
  clear hW4
  generalize w1.alloc (.cells (roomC (roomJ (rdn (atW r 0)) (atW r 1) (kindF (atW r 2)) (rdn (atW r 3)) (ex6 r) 0)).toArray 53) = W4 at *
  obtain ⟨b9, hb9⟩ : ∃ b, b = w1.heap.size := ⟨_, rfl⟩
  rw [← hb9] at HBX HBN ⊢
  have HB9 := Lib.hid hb9
  clear hb9
  have EX := Lib.hid (fun j (h : j < 6) => ex6_get r h)
  have HRP : Hid (roomP r = roomJ (rdn (atW r 0)) (atW r 1) (kindF (atW r 2)) (rdn (atW r 3)) (ex6 r) 6) := Lib.hid rfl
  generalize rdn (atW r 0) = n1 at *
  generalize atW r 1 = nm at *
  generalize kindF (atW r 2) = kd at *
  generalize rdn (atW r 3) = n4 at *
  generalize ex6 r = es at *
  clear R K SH T HK0 HN0
  go_loopw [4, 14] (fun _ jv wr => RxR p r n1 nm kd n4 es w.heap.size b9 w jv wr) (fun _ jv _ => 6 - (intOf jv).toNat)
  case atStart => exact ⟨0, by omega, rfl, HBX.out, HNA.out, RA.out, KA.out⟩
  case round =>
    obtain ⟨j, hj, rfl, hbx, hbn, hrd, hKj⟩ := hrel.ex
    have HBJ := Lib.hid hbx; have HNJ := Lib.hid hbn; have RJ := Lib.hid hrd; have KJ := Lib.hid hKj
    clear hbx hbn hrd hKj hrel
    by_cases hj6 : j < 6
    · have dj : decide (j < 6) = true := by simpa using hj6
      have dj2 : decide ((j : Int) < 6) = true := by rw [decide_eq_true_eq]; omega
      have CT := Lib.hid (rdId_any RJ.out (SH0.out.drop (4 + j)) (T0.out.keep KJ.out (fun b hb => hb ▸ HP.out)) HP.out)
      have HE := Lib.hid (EX.out j hj6)
      rw [← HE.out] at CT
      generalize hen : es.getD j 0 = en at *
      go_wp2_with (go_at_call 96; (with_reducible refine CT.out.mono ?_); rintro e w2 ⟨rfl, r2, k2⟩; have R2 := Lib.hid r2; have K2 := Lib.hid k2; have HB2 : Hid (w2.heap[b9]? = some (.cells (roomC (roomJ n1 nm kd n4 es j)).toArray 53 (0, 0))) := Lib.hid ((k2.block b9 (lt_of_block HBJ.out) (by have := HG.out; have := HBN.out; omega)).trans HBJ.out); have HN2 : Hid (w2.heap[w.heap.size]? = some (.cells zRoomC 53 (0, 0))) := Lib.hid ((k2.block _ (lt_of_block HNJ.out) (by have := HG.out; omega)).trans HNJ.out); have f1 := frozen_of_row w2 b9 (4 + j) _ _ HB2.out; obtain ⟨u1, q1⟩ : ∃ u, w2.cell? ⟨b9, 4 + j, none⟩ = some u := (exit_there _ hj6).imp (fun u hu => (cell_of_row w2 b9 (4 + j) _ _ _ HB2.out).trans hu); clear r2 k2)
      go_roundw
      case rel =>
        refine ⟨j + 1, by omega, by go_num, ?_, ?_, ?_, ?_⟩
        · rw [Joins.block_setCell HB2.out, ← hen, roomJ_set _ _ _ _ _ hj6]
        · exact ((Keep.setCell (Keep.refl (fun b => b = b9) w2) _ _ (.inl rfl)).block _ (lt_of_block HN2.out) (by have := HBN.out; omega)).trans HN2.out
        · have h3 := R2.out.keepT (Keep.setCell (Keep.refl (fun b => b = b9) w2) ⟨b9, 4 + j, none⟩ (.int .i64 en) (.inl rfl)) (fun b cs t f hf e => by
            subst hf
            rw [HB2.out] at e
            simp only [Option.some.injEq, Obj.cells.injEq] at e
            obtain ⟨_, rfl, _⟩ := e
            exact ⟨by decide, by decide⟩)
          rw [List.drop_drop] at h3
          exact h3
        · exact (KJ.out.trans K2.out (fun b hb => .inl hb)).setCell _ _ (.inr (by have := HBN.out; show w.heap.size ≤ b9; omega))
      case measure => simp [intOf]; omega
    · have dj : decide (j < 6) = false := by rw [decide_eq_false_iff_not]; omega
      have dj2 : decide ((j : Int) < 6) = false := by rw [decide_eq_false_iff_not]; omega
      obtain rfl : j = 6 := by omega
      go_wp2_with (first
        | (refine Cd.wpList_load_arr (C := (roomC (roomJ n1 nm kd n4 es 6)).toArray) Tryz.underlying53 rfl HI.out rfl (.tmp 3) rfl b9 rfl HBJ.out ?_; simp only [Act.put, List.setIfInBounds_toArray, List.set_cons_succ, List.set_cons_zero])
        | (refine Cd.wpList_store_arr HI.out (by rfl) (by simp [roomC, Value.oneCell']) rfl (.tmp 2) (.tmp 23) rfl w.heap.size rfl rfl HNJ.out ?_; intro ws hws kss hss; have HW := Lib.hid hws; have HKS := Lib.hid kss; clear hws kss hss))
      refine bodyPost_ret (Cd.results_arr1 Tryz.results42 _ _ w.heap.size rfl HW.out Tryz.underlying53 rfl HI.out) rfl ?_
      have KS := HKS.out
      refine ⟨by rw [HRP.out], ?_, KJ.out.trans KS (fun b e => .inr (by omega))⟩
      exact RJ.out.keepT KS (fun b cs t f hf e => by
        subst hf
        rw [HNJ.out] at e
        simp only [Option.some.injEq, Obj.cells.injEq] at e
        obtain ⟨_, rfl, _⟩ := e
        exact ⟨by decide, by decide⟩)
end Go.Proofs.YtcodbomgodkcmaaGreatDoor.Wd
