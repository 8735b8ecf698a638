/- codec: the reference's copy of a world. -/
import Derived.Test.YtpefkellcigpkaaCdH
import Derived.OwnWalk
namespace Go.Proofs.Ytpefkellcigpkaa.Cd
open Go.RowKit Go.Deep Go.Proofs.Ytpefkellcigpkaa
set_option maxRecDepth 100000

abbrev wcells (a b c : Int) (v1 v2 v3 v4 v5 v6 : Value) : Array Value := #[.int .i64 a, .int .i64 b, .int .i64 c, v1, v2, v3, v4, v5, v6]

theorem zWorld : ∃ Z : Array Value, Hid (∀ w : World, (zeroValue 29).run Try.prog w = .ok (.agg Z) w) ∧ Z.size = 9 :=
  ⟨wcells 0 0 0 (.slice none 0 0) (.slice none 0 0) (.slice none 0 0) (.slice none 0 0) (.slice none 0 0) (.slice none 0 0), Lib.hid (fun w => by kernel_rfl), rfl⟩
theorem zChar2 : ∃ Z : Array Value, Hid (∀ w : World, (zeroValue 58).run Try.prog w = .ok (.agg Z) w) ∧ Z.size = 10 := zChar
theorem zHouse2 : ∃ Z : Array Value, Hid (∀ w : World, (zeroValue 65).run Try.prog w = .ok (.agg Z) w) ∧ Z.size = 4 := zHouse
theorem Try.infoWorld2 : (Try.prog.info? 29).map (·.size) = some 9 := by kernel_rfl

theorem Try.bI : (Try.prog.info? 3).bind (fun i => i.zero.map fun z => (i.size, i.bytes, z.cells.size)) = some (eI.size, 8, eI.size) := by kernel_rfl
theorem Try.bS : (Try.prog.info? 9).bind (fun i => i.zero.map fun z => (i.size, i.bytes, z.cells.size)) = some (eS.size, 16, eS.size) := by kernel_rfl
theorem Try.bThing : (Try.prog.info? 61).bind (fun i => i.zero.map fun z => (i.size, i.bytes, z.cells.size)) = some (eThing.size, 48, eThing.size) := by kernel_rfl
theorem Try.bMob : (Try.prog.info? 54).bind (fun i => i.zero.map fun z => (i.size, i.bytes, z.cells.size)) = some (eMob.size, 32, eMob.size) := by kernel_rfl
theorem Try.bLot : (Try.prog.info? 67).bind (fun i => i.zero.map fun z => (i.size, i.bytes, z.cells.size)) = some (eLot.size, 72, eLot.size) := by kernel_rfl
theorem Try.bTill : (Try.prog.info? 81).bind (fun i => i.zero.map fun z => (i.size, i.bytes, z.cells.size)) = some (eTill.size, 16, eTill.size) := by kernel_rfl


abbrev MChar := ByteArray × ByteArray × Bool × Int × Int × Int × Int × Int × Int × List Int
abbrev ccells (x : MChar) (dv : Value) : Array Value := #[.string x.1, .string x.2.1, .bool x.2.2.1, .int .i64 x.2.2.2.1, .int .i64 x.2.2.2.2.1, .int .i64 x.2.2.2.2.2.1, .int .i64 x.2.2.2.2.2.2.1, .int .i64 x.2.2.2.2.2.2.2.1, .int .i64 x.2.2.2.2.2.2.2.2.1, dv]

/-- A character's copy, whose quests have just been copied. -/
structure CharMid (wr w7 : World) (B : Nat) (x : MChar) (dv v7 : Value) (W : Array Value) : Prop where
  p7 : w7.cell? ⟨wr.heap.size, 9, none⟩ = some dv
  f7 : w7.frozen? ⟨wr.heap.size, 9, none⟩ = false
  K8 : Keep (fun _ => False) wr (w7.setCell ⟨wr.heap.size, 9, none⟩ v7)
  HA8 : (w7.setCell ⟨wr.heap.size, 9, none⟩ v7).heap[B]? = some (.cells W 29 (0, 0))
  HN8 : (w7.setCell ⟨wr.heap.size, 9, none⟩ v7).heap[wr.heap.size]? = some (.cells (ccells x v7) 58 (0, 0))
  HH8 : eChar.H (fun b => wr.heap.size ≤ b) (w7.setCell ⟨wr.heap.size, 9, none⟩ v7) x (ccells x v7).toList

theorem char_mid {wr w7 : World} {B : Nat} {x : MChar} {dv v7 : Value} {W CC : Array Value} (hC : CC = ccells x dv) (k7 : Keep (fun _ => False) (wr.alloc (.cells CC 58)) w7)
    (o7 : Own eI 3 (wr.alloc (.cells CC 58)).heap.size w7 v7 x.2.2.2.2.2.2.2.2.2) (hA : wr.heap[B]? = some (.cells W 29 (0, 0))) : CharMid wr w7 B x dv v7 W := by
  have HSZ : (wr.alloc (.cells CC 58)).heap.size = wr.heap.size + 1 := World.size_alloc ..
  have HN7 : w7.heap[wr.heap.size]? = some (.cells CC 58 (0, 0)) := (k7.block _ (by omega) (fun h => h)).trans (heap_alloc_new wr _)
  have K8 : Keep (fun _ => False) wr (w7.setCell ⟨wr.heap.size, 9, none⟩ v7) := (((Keep.refl (fun _ => False) wr).alloc _).trans k7 (fun _ h => h.elim)).setCell _ _ (.inr (Nat.le_refl _))
  subst hC
  refine ⟨(cell_of_row w7 wr.heap.size 9 _ _ _ HN7).trans rfl, frozen_of_row w7 wr.heap.size 9 _ _ HN7, K8, (K8.block _ (lt_of_block hA) (fun h => h)).trans hA, (heap_setCell_at _ HN7).trans rfl, ⟨_, (o7.at.keep ((Keep.refl (fun b => b = wr.heap.size) w7).setCell _ _ (.inl rfl)) (fun b hb _ e => ?_)).mono (fun b _ hb => ?_), rfl⟩⟩
  · omega
  · omega

/-- While a list is copied. -/
structure CoL {M : Type} (E : El M) (ty : TypeId) (lo : Nat) (w0 : World) (B : Nat) (WC : Value → Array Value) (l : List M) (i : Value) (wr : World) : Prop where
  ex : ∃ (k : Nat) (av : Option Addr) (cv : Nat), k ≤ l.length ∧ i = .int .i64 (k : Int) ∧ wr.heap[B]? = some (.cells (WC (.slice av k cv)) 29 (0, 0)) ∧
    Own E ty lo wr (.slice av k cv) (l.take k) ∧ Keep (fun b => b = B) w0 wr

theorem CoL.step {M : Type} {E : El M} {ty : TypeId} {lo : Nat} {w0 wr w8 w5 : World} {B f k : Nat} {WC : Value → Array Value} {l : List M} {x : M} {cs : List Value} {css : List (List Value)} {C : Obj} {av a9 : Option Addr} {cv d9 : Nat} (hWC : ∀ u v, (WC u).setIfInBounds f v = WC v)
    (hlo : B < lo) (hA9 : w5.heap[B]? = some (.cells (WC (.slice av k cv)) 29 (0, 0))) (hO : Own E ty lo wr (.slice av k cv) (l.take k)) (h1 : css.length = (l.take k).length) (h2 : ∀ cs ∈ css, cs.length = E.size)
    (h3 : ∀ (i : Nat) (x : M), (l.take k)[i]? = some x → ∃ cs, css[i]? = some cs ∧ E.H (fun b => lo ≤ b ∧ ¬ own (.slice av k cv) b) wr x cs) (k8 : Keep (fun _ => False) wr w8) (hB : lo ≤ wr.heap.size) (hH : E.H (fun b => wr.heap.size ≤ b) w8 x cs)
    (r5 : Row w5 ty E.size (.slice a9 (k + 1) d9) (k + 1) (css.flatten ++ cs)) (k5 : Keep (fun b => (Value.slice av k cv).ownBlock = some b) (w8.alloc C) w5)
    (n5 : ∀ b, (Value.slice a9 (k + 1) d9).ownBlock = some b → (Value.slice av k cv).ownBlock = some b ∨ ((w8.alloc C).heap.size ≤ b ∧ b < w5.heap.size)) (hx : l[k]? = some x) (hK : Keep (fun b => b = B) w0 wr) (hw : w0.heap.size ≤ lo) {z : Int} (hz : z = (k : Int) + 1) :
    CoL E ty lo w0 B WC l (.int .i64 z) (w5.setCell ⟨B, f, none⟩ (.slice a9 (k + 1) d9)) := by
  have hkl : k < l.length := (List.getElem?_eq_some_iff.1 hx).1
  have hl : (l.take k).length = k := by rw [List.length_take]; omega
  have o5 := hO.push h1 h2 h3 k8 (fun _ _ h => h) hB hH (fun b hb => hb) (by rw [hl]; exact r5) k5 n5
  have e : l.take k ++ [x] = l.take (k + 1) := by
    rw [List.take_add_one, hx]; rfl
  rw [e] at o5
  have k6 : Keep (fun b => b = B) w0 w5 := (((hK.trans k8 (fun _ h => h.elim)).alloc C).trans k5 (fun b e => .inr (by have := hO.new b e; omega)))
  refine ⟨k + 1, a9, d9, hkl, by rw [hz, Int.natCast_add]; rfl, (heap_setCell_at _ hA9).trans (by rw [hWC]), o5.keep ((Keep.refl (fun b => b = B) w5).setCell _ _ (.inl rfl)) (fun b hb e => by omega), k6.setCell _ _ (.inl rfl)⟩

abbrev MHouse := Int × ByteArray × List ByteArray × Int
abbrev hcells (x : MHouse) (gv : Value) : Array Value := #[.int .i64 x.1, .string x.2.1, gv, .int .i64 x.2.2.2]

/-- A house's copy, whose guests have just been copied. -/
structure HouseMid (wr w7 : World) (B : Nat) (x : MHouse) (dv v7 : Value) (W : Array Value) : Prop where
  p7 : w7.cell? ⟨wr.heap.size, 2, none⟩ = some dv
  f7 : w7.frozen? ⟨wr.heap.size, 2, none⟩ = false
  K8 : Keep (fun _ => False) wr (w7.setCell ⟨wr.heap.size, 2, none⟩ v7)
  HA8 : (w7.setCell ⟨wr.heap.size, 2, none⟩ v7).heap[B]? = some (.cells W 29 (0, 0))
  HN8 : (w7.setCell ⟨wr.heap.size, 2, none⟩ v7).heap[wr.heap.size]? = some (.cells (hcells x v7) 65 (0, 0))
  HH8 : eHouseW.H (fun b => wr.heap.size ≤ b) (w7.setCell ⟨wr.heap.size, 2, none⟩ v7) x (hcells x v7).toList

theorem house_mid {wr w7 : World} {B : Nat} {x : MHouse} {dv v7 : Value} {W CC : Array Value} (hC : CC = hcells x dv) (k7 : Keep (fun _ => False) (wr.alloc (.cells CC 65)) w7)
    (o7 : Own eS 9 (wr.alloc (.cells CC 65)).heap.size w7 v7 x.2.2.1) (hA : wr.heap[B]? = some (.cells W 29 (0, 0))) : HouseMid wr w7 B x dv v7 W := by
  have HSZ : (wr.alloc (.cells CC 65)).heap.size = wr.heap.size + 1 := World.size_alloc ..
  have HN7 : w7.heap[wr.heap.size]? = some (.cells CC 65 (0, 0)) := (k7.block _ (by omega) (fun h => h)).trans (heap_alloc_new wr _)
  have K8 : Keep (fun _ => False) wr (w7.setCell ⟨wr.heap.size, 2, none⟩ v7) := (((Keep.refl (fun _ => False) wr).alloc _).trans k7 (fun _ h => h.elim)).setCell _ _ (.inr (Nat.le_refl _))
  subst hC
  refine ⟨(cell_of_row w7 wr.heap.size 2 _ _ _ HN7).trans rfl, frozen_of_row w7 wr.heap.size 2 _ _ HN7, K8, (K8.block _ (lt_of_block hA) (fun h => h)).trans hA, (heap_setCell_at _ HN7).trans rfl, ⟨_, (o7.gr.keep ((Keep.refl (fun b => b = wr.heap.size) w7).setCell _ _ (.inl rfl)) (fun b hb _ e => ?_)).mono (fun b _ hb => ?_), rfl⟩⟩
  · omega
  · omega

/-- A list that has just been copied, and is laid into the world. -/
structure TailMid {M : Type} (E : El M) (ty : TypeId) (w1 w' : World) (B f : Nat) (v old : Value) (l : List M) (W' : Array Value) : Prop where
  p : w'.cell? ⟨B, f, none⟩ = some old
  fz : w'.frozen? ⟨B, f, none⟩ = false
  HA : (w'.setCell ⟨B, f, none⟩ v).heap[B]? = some (.cells W' 29 (0, 0))
  K : Keep (fun b => b = B) w1 (w'.setCell ⟨B, f, none⟩ v)
  m : Mine E ty w1.heap.size (w'.setCell ⟨B, f, none⟩ v).heap.size (w'.setCell ⟨B, f, none⟩ v) v l

theorem tail_mid {M : Type} {E : El M} {ty : TypeId} {w1 w' : World} {B f : Nat} {v old : Value} {l : List M} {W W' : Array Value} (hA : w1.heap[B]? = some (.cells W 29 (0, 0))) (k : Keep (fun _ => False) w1 w') (o : Own E ty w1.heap.size w' v l)
    (ho : W[f]? = some old) (hW : W.setIfInBounds f v = W') : TailMid E ty w1 w' B f v old l W' := by
  have h1 : w'.heap[B]? = some (.cells W 29 (0, 0)) := (k.block _ (lt_of_block hA) (fun h => h)).trans hA
  have hb := lt_of_block hA
  refine ⟨(cell_of_row w' B f _ _ _ h1).trans ho, frozen_of_row w' B f _ _ h1, (heap_setCell_at _ h1).trans (by rw [hW]), (k.mono (fun _ _ h => h.elim)).setCell _ _ (.inl rfl), ?_⟩
  exact (o.keep ((Keep.refl (fun b => b = B) w').setCell _ _ (.inl rfl)) (fun b hb2 e => by omega)).mine (Nat.le_refl _)

set_option maxHeartbeats 4000000 in
theorem copy_any {w : World} {g off : Nat} {x : MWorld} {v1 v2 v3 v4 v5 v6 : Value} (hg : g < w.heap.size) (hr : w.rangeAt g off (wcells x.1 x.2.1 x.2.2.1 v1 v2 v3 v4 v5 v6).toList)
    (l1 : LAt eChar (fun b => b < w.heap.size) w v1 x.2.2.2.1) (l2 : LAt eThing (fun b => b < w.heap.size) w v2 x.2.2.2.2.1) (l3 : LAt eMob (fun b => b < w.heap.size) w v3 x.2.2.2.2.2.1) (l4 : LAt eHouse (fun b => b < w.heap.size) w v4 x.2.2.2.2.2.2.1)
    (l5 : LAt eLot (fun b => b < w.heap.size) w v5 x.2.2.2.2.2.2.2.1) (l6 : LAt eTill (fun b => b < w.heap.size) w v6 x.2.2.2.2.2.2.2.2) (hw : wWorld x) :
    Calls Try.prog 19 #[.pointer (some ⟨g, off, none⟩)] w fun e w' => ∃ g', e = .returned (.pointer (some ⟨g', 0, none⟩)) ∧ WAt w.heap.size w' g' x ∧ Keep (fun _ => False) w w' := by
  obtain ⟨now, next, minted, chars, things, mobs, houses, lots, tills⟩ := x
  simp only at hr l1 l2 l3 l4 l5 l6 ⊢
  obtain ⟨Z, HZ, hZs⟩ := zWorld
  have HW := Lib.hid hw
  have L1 := Lib.hid l1
  obtain ⟨a1, d1, rfl, hm1⟩ := l1.slice
  have L2 := Lib.hid l2
  have o2 := l2.one
  have L3 := Lib.hid l3
  have o3 := l3.one
  have L4 := Lib.hid l4
  obtain ⟨a4, d4, rfl, hm4⟩ := l4.slice
  have L5 := Lib.hid l5
  have o5 := l5.one
  have L6 := Lib.hid l6
  have o6 := l6.one
  have HK : Hid (∀ w9 : World, Keep (fun _ => False) w w9 → w9.rangeAt g off (wcells now next minted (.slice a1 chars.length d1) v2 v3 (.slice a4 houses.length d4) v5 v6).toList) := Lib.hid (fun w9 k => rangeAt_keep hr k hg (fun h => h))
  obtain ⟨C, hC⟩ : ∃ C, C = wcells now next minted (.slice a1 chars.length d1) v2 v3 (.slice a4 houses.length d4) v5 v6 := ⟨_, rfl⟩
  have HC := Lib.hid hC
  have hCs : C.size = 9 := by rw [hC]; rfl
  have hCl : C.toList.length = 9 := by rw [Array.length_toList]; exact hCs
  have HONE : Hid (C.all (·.oneCell') = true) := Lib.hid (by rw [hC]; simp [Value.oneCell']; exact ⟨o2, o3, o5, o6⟩)
  have HR : Hid (w.rangeAt g off C.toList) := Lib.hid (by rw [hC]; exact hr)
  have HNEW : Hid ((w.alloc (.cells C 29)).heap[w.heap.size]? = some (.cells C 29 (0, 0))) := Lib.hid (heap_alloc_new w _)
  have p3 := cell_of_row (w.alloc (.cells C 29)) w.heap.size 3 _ _ _ HNEW.out
  have f3 := frozen_of_row (w.alloc (.cells C 29)) w.heap.size 3 _ _ HNEW.out
  clear hw l1 l2 l3 l4 l5 l6 hr hC o2 o3 o5 o6
  go_enter Try.func19, Try.ntmps19
  go_wp2_with (first
    | (refine wpList_load_mid rfl 29 (.tmp 9) rfl g off rfl C.toList _ HR.out Try.underlying29 rfl (by rw [hCl]; exact Try.infoWorld2) ?_; rw [Array.toArray_toList])
    | (refine wpList_var_arr HZ (by rw [hCs]; exact Try.infoWorld2) (by rw [hZs, hCs]) HONE.out rfl rfl rfl (.tmp 3) (.tmp 10) rfl rfl rfl ?_))
  have K2 : Hid (Keep (fun _ => False) w (w.alloc (.cells (C.setIfInBounds 3 (.slice none 0 0)) 29))) := Lib.hid ((Keep.refl _ w).alloc _)
  have HA : Hid ((w.alloc (.cells (C.setIfInBounds 3 (.slice none 0 0)) 29)).heap[w.heap.size]? = some (.cells (wcells now next minted (.slice none 0 0) v2 v3 (.slice a4 houses.length d4) v5 v6) 29 (0, 0))) := Lib.hid (by
    rw [heap_alloc_new, HC.out]; rfl)
  have SZ2 : Hid ((w.alloc (.cells (C.setIfInBounds 3 (.slice none 0 0)) 29)).heap.size = w.heap.size + 1) := Lib.hid (World.size_alloc ..)
  clear p3 f3 HNEW HONE HC hCs hCl HR
  generalize w.alloc (.cells (C.setIfInBounds 3 (.slice none 0 0)) 29) = w2 at *
  obtain ⟨B, hB⟩ : ∃ B, B = w.heap.size := ⟨_, rfl⟩
  rw [← hB] at HA SZ2
  have HBB := Lib.hid hB
  rw [← hB]
  clear hB
  obtain ⟨n1, hn1⟩ : ∃ n, n = chars.length := ⟨_, rfl⟩
  rw [← hn1] at L1 HK hm1
  have HN1 := Lib.hid hn1
  clear hn1
  have HKB : Hid (∀ w9 : World, Keep (fun b => b = B) w2 w9 → w9.rangeAt g off (wcells now next minted (.slice a1 n1 d1) v2 v3 (.slice a4 houses.length d4) v5 v6).toList) := Lib.hid (fun w9 k => rangeAt_keep (HK.out _ K2.out) k (by have := SZ2.out; have := HBB.out; omega) (by have := HBB.out; omega))
  have L1B : Hid (LAt eChar (fun b => b < B) w2 (.slice a1 n1 d1) chars) := Lib.hid ((L1.out.keep K2.out (fun _ _ _ h => h)).mono (fun b _ hb => by have := HBB.out; omega))
  clear HK L1
  obtain ⟨ZC, HZC, hZCs⟩ := zChar
  obtain ⟨ie, z, q1, q2, q3, q4, q5⟩ := infoElChar
  go_loopw [4] (fun i wr => CoL eChar 58 (B + 1) w2 B (fun v => wcells now next minted v v2 v3 (.slice a4 houses.length d4) v5 v6) chars i wr) (fun i _ => n1 - (intOf i).toNat)
  case atStart => exact ⟨0, none, 0, by omega, rfl, HA.out, by simpa using Own.nil _ _ _ _, Keep.refl _ w2⟩
  case round =>
    obtain ⟨k, av, cv, hk, rfl, hA, hO, hK⟩ := hrel.ex
    clear hrel
    have HA1 := Lib.hid hA
    have HO := Lib.hid hO
    have HK1 := Lib.hid hK
    have c3 : _ = some (Value.slice a1 n1 d1) := (HKB.out wr hK) 3 _ rfl
    rw [← HN1.out] at hk
    clear hA hO hK
    by_cases hlt : k < n1
    · have hlt1 : (k : Int) < (n1 : Int) := by omega
      obtain ⟨x, hx⟩ : ∃ x, chars[k]? = some x := ⟨_, List.getElem?_eq_getElem (by have := HN1.out; omega)⟩
      have HX := Lib.hid hx
      have HWX : Hid (wChar x) := Lib.hid (HW.out.chars.1 x (List.mem_of_getElem? hx))
      obtain ⟨g1, o1, cs1, rfl, _, _, hH1, hr1⟩ := (L1B.out.keep HK1.out (fun b hb _ e => by omega)).get k x hx
      obtain ⟨dv, hD, rfl⟩ := hH1
      have hD1 := hD.one
      have HD1 := Lib.hid hD1
      obtain ⟨CC, hCC⟩ : ∃ CC : Array Value, CC = ccells x dv := ⟨_, rfl⟩
      have HCC := Lib.hid hCC
      have hCs : CC.size = 10 := by rw [hCC]; rfl
      have hCl : CC.toList.length = 10 := by rw [Array.length_toList]; exact hCs
      have HONE : Hid (CC.all (·.oneCell') = true) := Lib.hid (by rw [hCC]; simp [Value.oneCell']; exact hD1)
      have HR1 : Hid (wr.rangeAt g1 (o1 + k * 10) CC.toList) := Lib.hid (by rw [hCC]; exact hr1)
      have HD2 : Hid (LAt eI (fun b => b < B) (wr.alloc (.cells CC 58)) dv x.2.2.2.2.2.2.2.2.2) := Lib.hid (hD.keep ((Keep.refl (fun _ => False) wr).alloc _) (fun _ _ _ h => h))
      have HNEW : Hid ((wr.alloc (.cells CC 58)).heap[wr.heap.size]? = some (.cells CC 58 (0, 0))) := Lib.hid (heap_alloc_new wr _)
      have p9 : (wr.alloc (.cells CC 58)).cell? ⟨wr.heap.size, 9, none⟩ = some dv := (cell_of_row (wr.alloc (.cells CC 58)) wr.heap.size 9 _ _ _ HNEW.out).trans (by rw [hCC]; rfl)
      clear hr1 hD hx hCC hD1
      go_wp2_with (first
        | (refine wpList_load_mid rfl 58 (.tmp 26) rfl g1 (o1 + k * 10) rfl CC.toList _ HR1.out Try.underlying58 rfl (by rw [hCl]; exact Try.infoChar) ?_; rw [Array.toArray_toList])
        | (refine wpList_var_arr HZC (by rw [hCs]; exact Try.infoChar) (by rw [hZCs, hCs]) HONE.out rfl rfl rfl (.tmp 5) (.tmp 27) rfl rfl rfl ?_)
        | (at_builtin
           (
             refine wpList_copied flatI (show 0 < eI.size from Nat.one_pos) Try.bI Try.underlying42 rfl (.const (.slice none 0 0)) (.tmp 29) rfl rfl rfl HD2.out HWX.out.2 (by omega) ?_
             intro v7 w7 o7 k7
             obtain ⟨a7, d7, ev7⟩ := o7.slice
             obtain ⟨n7, en7⟩ : ∃ n7, n7 = x.2.2.2.2.2.2.2.2.2.length := ⟨_, rfl⟩
             rw [← en7] at ev7
             subst ev7
             clear en7
             have HM := Lib.hid (char_mid (x := x) HCC.out k7 o7 HA1.out)
             clear o7 k7
             have p7 := HM.out.p7
             have f7 := HM.out.f7
             have p8 : (w7.setCell ⟨wr.heap.size, 9, none⟩ (.slice a7 n7 d7)).cell? ⟨B, 3, none⟩ = some (.slice av k cv) := (cell_of_row (w7.setCell ⟨wr.heap.size, 9, none⟩ (.slice a7 n7 d7)) B 3 _ _ _ HM.out.HA8).trans rfl
             obtain ⟨C8, hC8⟩ : ∃ C8 : Array Value, C8 = ccells x (.slice a7 n7 d7) := ⟨_, rfl⟩
             have HC8 := Lib.hid hC8
             have hC8s : C8.size = 10 := (congrArg Array.size hC8).trans rfl
             have HN8 : Hid ((w7.setCell ⟨wr.heap.size, 9, none⟩ (.slice a7 n7 d7)).heap[wr.heap.size]? = some (.cells C8 58 (0, 0))) := Lib.hid (by rw [hC8]; exact HM.out.HN8)
             have HSRC := Lib.hid (src_agg (w := w7.setCell ⟨wr.heap.size, 9, none⟩ (.slice a7 n7 d7)) (t := 58) Try.underlying22 (C := C8) (cs := C8.toList) (s := 10) (by simp) (by rw [Array.length_toList]; exact hC8s) (by rw [hC8]; simp [Value.oneCell']) _ rfl)
             obtain ⟨css, r1, e2, e3, e4⟩ := HO.out.ex
             have HE := Lib.hid (And.intro e2 (And.intro e3 e4))
             have HRW := Lib.hid (r1.keep HM.out.K8 (fun b _ h => h))
             have hlk : (chars.take k).length = k := by have := HN1.out; simp only [List.length_take]; omega
             have HLK := Lib.hid hlk
             rw [hlk] at HRW
             have hb1 : k + 1 ≤ n1 := by omega
             have hb2 : n1 * 112 ≤ 140737488351232 := by have := HW.out.chars.2; rw [HN1.out]; exact this
             have HI8 : Hid ((Try.prog.info? 58).map (·.size) = some C8.size) := Lib.hid (by rw [hC8s]; exact Try.infoChar)
             clear hC8 r1 e2 e3 e4 hlk))
        | (refine wpList_load_arr Try.underlying58 rfl HI8.out rfl (.tmp 5) rfl wr.heap.size rfl HN8.out ?_)
        | (refine wpList_build1 rfl (.tmp 34) rfl rfl Try.underlying22 q1 q2 q3 q5 hC8s (by omega) (by omega) ?_)
        | (refine wpList_append_row _ rfl (.tmp 33) (.tmp 35) rfl Try.underlying22 q1 q2 q3 q4 q5 rfl (HRW.out.alloc _) rfl HSRC.out (by unfold maxLen; omega) (by omega) ?_
           intro v5 w5 r5 k5 n5 _
           have R5 := Lib.hid r5
           have K5 := Lib.hid k5
           have N5 := Lib.hid n5
           obtain ⟨a9, d9, hv5, _, _⟩ := r5.slice
           subst hv5
           have HA9 : Hid (w5.heap[B]? = some (.cells (wcells now next minted (.slice av k cv) v2 v3 (.slice a4 houses.length d4) v5 v6) 29 (0, 0))) := Lib.hid
             ((k5.block _ (by rw [World.size_alloc]; have := lt_of_block HM.out.HA8; omega) (fun e => by have := HO.out.new _ e; omega)).trans ((((Keep.refl (fun _ => False) _).alloc _).block _ (lt_of_block HM.out.HA8) (fun h => h)).trans HM.out.HA8))
           have p9' : w5.cell? ⟨B, 3, none⟩ = some (.slice av k cv) := (cell_of_row w5 B 3 _ _ _ HA9.out).trans rfl
           have f9' := frozen_of_row w5 B 3 _ _ HA9.out
           clear r5 k5 n5))
      go_roundw
      case rel =>
        (repeat apply Exists.intro)
        exact CoL.step (f := 3) (fun u v => rfl) (Nat.lt_succ_self B) HA9.out HO.out HE.out.1 HE.out.2.1 HE.out.2.2 HM.out.K8 (by have := HK1.out.size; have := SZ2.out; omega) (by rw [HC8.out]; exact HM.out.HH8) R5.out K5.out N5.out HX.out HK1.out (by have := SZ2.out; omega) rfl
      case measure => simp [intOf]; omega
    · obtain rfl : k = n1 := by omega
      have hall : chars.take k = chars := List.take_of_length_le (by have := HN1.out; omega)
      have HOC : Hid (Own eChar 58 (B + 1) wr (.slice av k cv) chars) := Lib.hid (by rw [← hall]; exact HO.out)
      have p6 : wr.cell? ⟨B, 6, none⟩ = some (.slice a4 houses.length d4) := (cell_of_row wr B 6 _ _ _ HA1.out).trans rfl
      have f6 := frozen_of_row wr B 6 _ _ HA1.out
      obtain ⟨vC, hvC⟩ : ∃ vC, vC = Value.slice av k cv := ⟨_, rfl⟩
      have HA3 : Hid ((wr.setCell ⟨B, 6, none⟩ (.slice none 0 0)).heap[B]? = some (.cells (wcells now next minted vC v2 v3 (.slice none 0 0) v5 v6) 29 (0, 0))) := Lib.hid ((heap_setCell_at _ HA1.out).trans (by rw [hvC]; rfl))
      have HK3 : Hid (Keep (fun b => b = B) w2 (wr.setCell ⟨B, 6, none⟩ (.slice none 0 0))) := Lib.hid (HK1.out.setCell _ _ (.inl rfl))
      have HOC3 : Hid (Mine eChar 58 (B + 1) (wr.setCell ⟨B, 6, none⟩ (.slice none 0 0)).heap.size (wr.setCell ⟨B, 6, none⟩ (.slice none 0 0)) vC chars) := Lib.hid (by
        rw [hvC]
        exact (HOC.out.keep ((Keep.refl (fun b => b = B) wr).setCell _ _ (.inl rfl)) (fun b hb e => by omega)).mine (Nat.le_refl _))
      clear hall HOC HO HA1 HK1 hvC
      obtain ⟨n2, hn2⟩ : ∃ n, n = houses.length := ⟨_, rfl⟩
      rw [← hn2] at HKB p6 L4 hm4
      have HN2 := Lib.hid hn2
      clear hn2
      go_wp2_with fail
      generalize (wr.setCell ⟨B, 6, none⟩ (.slice none 0 0)) = w3 at *
      have L4B : Hid (LAt eHouse (fun b => b < B) w3 (.slice a4 n2 d4) houses) := Lib.hid (((L4.out.keep K2.out (fun _ _ _ h => h)).mono (fun b _ hb => by have := HBB.out; omega)).keep HK3.out (fun b hb _ e => by have h9 : b < B := hb; omega))
      have HKB3 : Hid (∀ w9 : World, Keep (fun b => b = B) w3 w9 → w9.rangeAt g off (wcells now next minted (.slice a1 k d1) v2 v3 (.slice a4 n2 d4) v5 v6).toList) := Lib.hid (fun w9 k => HKB.out w9 (HK3.out.trans k (fun _ e => .inl e)))
      obtain ⟨lo3, hlo3⟩ : ∃ lo3, lo3 = w3.heap.size := ⟨_, rfl⟩
      rw [← hlo3] at HOC3
      have SZ3 := Lib.hid hlo3
      have HLO : Hid (B < lo3) := Lib.hid (by rw [hlo3]; exact lt_of_block HA3.out)
      clear hlo3 p6 f6 c3
      obtain ⟨ZH, HZH, hZHs⟩ := zHouse
      obtain ⟨ie4, z4, u1, u2, u3, u4, u5⟩ := infoElHouse
      go_loopw [6] (fun i wr => CoL eHouseW 65 lo3 w3 B (fun v => wcells now next minted vC v2 v3 v v5 v6) houses i wr) (fun i _ => n2 - (intOf i).toNat)
      case atStart => exact ⟨0, none, 0, by omega, rfl, HA3.out, by simpa using Own.nil _ _ _ _, Keep.refl _ w3⟩
      case round =>
        obtain ⟨k2, av, cv, hk2, rfl, hA, hO, hK⟩ := hrel.ex
        clear hrel
        have HA1 := Lib.hid hA
        have HO := Lib.hid hO
        have HK1 := Lib.hid hK
        have c6 : _ = some (Value.slice a4 n2 d4) := (HKB3.out wr hK) 6 _ rfl
        rw [← HN2.out] at hk2
        clear hA hO hK
        by_cases hlt : k2 < n2
        · have hlt1 : (k2 : Int) < (n2 : Int) := by omega
          obtain ⟨x, hx⟩ : ∃ x, houses[k2]? = some x := ⟨_, List.getElem?_eq_getElem (by have := HN2.out; omega)⟩
          have HX := Lib.hid hx
          have HWX : Hid (wHouse x) := Lib.hid (HW.out.houses.1 x (List.mem_of_getElem? hx))
          obtain ⟨g1, o1, cs1, rfl, _, _, hH1, hr1⟩ := (L4B.out.keep HK1.out (fun b hb _ e => by omega)).get k2 x hx
          obtain ⟨dv, hD, rfl⟩ := hH1
          have hD1 := hD.one
          have HD1 := Lib.hid hD1
          obtain ⟨CC, hCC⟩ : ∃ CC : Array Value, CC = hcells x dv := ⟨_, rfl⟩
          have HCC := Lib.hid hCC
          have hCs : CC.size = 4 := by rw [hCC]; rfl
          have hCl : CC.toList.length = 4 := by rw [Array.length_toList]; exact hCs
          have HONE : Hid (CC.all (·.oneCell') = true) := Lib.hid (by rw [hCC]; simp [Value.oneCell']; exact hD1)
          have HR1 : Hid (wr.rangeAt g1 (o1 + k2 * 4) CC.toList) := Lib.hid (by rw [hCC]; exact hr1)
          have HD2 : Hid (LAt eS (fun b => b < B) (wr.alloc (.cells CC 65)) dv x.2.2.1) := Lib.hid (hD.keep ((Keep.refl (fun _ => False) wr).alloc _) (fun _ _ _ h => h))
          have HNEW : Hid ((wr.alloc (.cells CC 65)).heap[wr.heap.size]? = some (.cells CC 65 (0, 0))) := Lib.hid (heap_alloc_new wr _)
          have p9 : (wr.alloc (.cells CC 65)).cell? ⟨wr.heap.size, 2, none⟩ = some dv := (cell_of_row (wr.alloc (.cells CC 65)) wr.heap.size 2 _ _ _ HNEW.out).trans (by rw [hCC]; rfl)
          clear hr1 hD hx hCC hD1
          go_wp2_with (first
            | (refine wpList_load_mid rfl 65 (.tmp 53) rfl g1 (o1 + k2 * 4) rfl CC.toList _ HR1.out Try.underlying65 rfl (by rw [hCl]; exact Try.infoHouse) ?_; rw [Array.toArray_toList])
            | (refine wpList_var_arr HZH (by rw [hCs]; exact Try.infoHouse) (by rw [hZHs, hCs]) HONE.out rfl rfl rfl (.tmp 7) (.tmp 54) rfl rfl rfl ?_)
            | (at_builtin
               (
                 refine wpList_copied flatS (show 0 < eS.size from Nat.one_pos) Try.bS Try.underlying63 rfl (.const (.slice none 0 0)) (.tmp 56) rfl rfl rfl HD2.out HWX.out.2 (by omega) ?_
                 intro v7 w7 o7 k7
                 obtain ⟨a7, d7, ev7⟩ := o7.slice
                 obtain ⟨n7, en7⟩ : ∃ n7, n7 = x.2.2.1.length := ⟨_, rfl⟩
                 rw [← en7] at ev7
                 subst ev7
                 clear en7
                 have HM := Lib.hid (house_mid (x := x) HCC.out k7 o7 HA1.out)
                 clear o7 k7
                 have p7 := HM.out.p7
                 have f7 := HM.out.f7
                 have p8 : (w7.setCell ⟨wr.heap.size, 2, none⟩ (.slice a7 n7 d7)).cell? ⟨B, 6, none⟩ = some (.slice av k2 cv) := (cell_of_row (w7.setCell ⟨wr.heap.size, 2, none⟩ (.slice a7 n7 d7)) B 6 _ _ _ HM.out.HA8).trans rfl
                 obtain ⟨C8, hC8⟩ : ∃ C8 : Array Value, C8 = hcells x (.slice a7 n7 d7) := ⟨_, rfl⟩
                 have HC8 := Lib.hid hC8
                 have hC8s : C8.size = 4 := (congrArg Array.size hC8).trans rfl
                 have HN8 : Hid ((w7.setCell ⟨wr.heap.size, 2, none⟩ (.slice a7 n7 d7)).heap[wr.heap.size]? = some (.cells C8 65 (0, 0))) := Lib.hid (by rw [hC8]; exact HM.out.HN8)
                 have HSRC := Lib.hid (src_agg (w := w7.setCell ⟨wr.heap.size, 2, none⟩ (.slice a7 n7 d7)) (t := 65) Try.underlying25 (C := C8) (cs := C8.toList) (s := 4) (by simp) (by rw [Array.length_toList]; exact hC8s) (by rw [hC8]; simp [Value.oneCell']) _ rfl)
                 obtain ⟨css, r1, e2, e3, e4⟩ := HO.out.ex
                 have HE := Lib.hid (And.intro e2 (And.intro e3 e4))
                 have HRW := Lib.hid (r1.keep HM.out.K8 (fun b _ h => h))
                 have hlk : (houses.take k2).length = k2 := by have := HN2.out; simp only [List.length_take]; omega
                 have HLK := Lib.hid hlk
                 rw [hlk] at HRW
                 have hb1 : k2 + 1 ≤ n2 := by omega
                 have hb2 : n2 * 56 ≤ 140737488351232 := by have := HW.out.houses.2; rw [HN2.out]; exact this
                 have HI8 : Hid ((Try.prog.info? 65).map (·.size) = some C8.size) := Lib.hid (by rw [hC8s]; exact Try.infoHouse)
                 clear hC8 r1 e2 e3 e4 hlk))
            | (refine wpList_load_arr Try.underlying65 rfl HI8.out rfl (.tmp 7) rfl wr.heap.size rfl HN8.out ?_)
            | (refine wpList_build1 rfl (.tmp 61) rfl rfl Try.underlying25 u1 u2 u3 u5 hC8s (by omega) (by omega) ?_)
            | (refine wpList_append_row _ rfl (.tmp 60) (.tmp 62) rfl Try.underlying25 u1 u2 u3 u4 u5 rfl (HRW.out.alloc _) rfl HSRC.out (by unfold maxLen; omega) (by omega) ?_
               intro v5 w5 r5 k5 n5 _
               have R5 := Lib.hid r5
               have K5 := Lib.hid k5
               have N5 := Lib.hid n5
               obtain ⟨a9, d9, hv5, _, _⟩ := r5.slice
               subst hv5
               have HA9 : Hid (w5.heap[B]? = some (.cells (wcells now next minted vC v2 v3 (.slice av k2 cv) v5 v6) 29 (0, 0))) := Lib.hid
                 ((k5.block _ (by rw [World.size_alloc]; have := lt_of_block HM.out.HA8; omega) (fun e => by have := HO.out.new _ e; have := HLO.out; omega)).trans ((((Keep.refl (fun _ => False) _).alloc _).block _ (lt_of_block HM.out.HA8) (fun h => h)).trans HM.out.HA8))
               have p9' : w5.cell? ⟨B, 6, none⟩ = some (.slice av k2 cv) := (cell_of_row w5 B 6 _ _ _ HA9.out).trans rfl
               have f9' := frozen_of_row w5 B 6 _ _ HA9.out
               clear r5 k5 n5))
          go_roundw
          case rel =>
            (repeat apply Exists.intro)
            exact CoL.step (f := 6) (fun u v => rfl) HLO.out HA9.out HO.out HE.out.1 HE.out.2.1 HE.out.2.2 HM.out.K8 (by have := HK1.out.size; have := SZ3.out; omega) (by rw [HC8.out]; exact HM.out.HH8) R5.out K5.out N5.out HX.out HK1.out (by have := SZ3.out; omega) rfl
          case measure => simp [intOf]; omega
        · obtain rfl : k2 = n2 := by omega
          have hall : houses.take k2 = houses := List.take_of_length_le (by have := HN2.out; omega)
          obtain ⟨vH, hvH⟩ : ∃ vH, vH = Value.slice av k2 cv := ⟨_, rfl⟩
          have hoh : Own eHouseW 65 lo3 wr (.slice av k2 cv) houses := by have h9 := HO.out; rwa [hall] at h9
          have MH0 : Hid (Mine eHouseW 65 lo3 wr.heap.size wr vH houses) := Lib.hid (by rw [hvH]; exact hoh.mine (Nat.le_refl _))
          have MC0 : Hid (Mine eChar 58 (B + 1) lo3 wr vC chars) := Lib.hid (HOC3.out.keep HK1.out (fun b hb1 hb2 e => by omega))
          have HA0 : Hid (wr.heap[B]? = some (.cells (wcells now next minted vC v2 v3 vH v5 v6) 29 (0, 0))) := Lib.hid (by rw [hvH]; exact HA1.out)
          have KT : Hid (Keep (fun b => b = B) w2 wr) := Lib.hid (HK3.out.trans HK1.out (fun _ e => .inl e))
          have KB0 : Hid (Keep (fun b => b = B) wr wr) := Lib.hid (Keep.refl _ _)
          have HBlt : Hid (B < wr.heap.size ∧ lo3 ≤ wr.heap.size ∧ B < lo3) := Lib.hid ⟨lt_of_block HA1.out, by have := HK1.out.size; have := SZ3.out; omega, HLO.out⟩
          have S4 : Hid (∀ w9 : World, Keep (fun b => b = B) wr w9 → LAt eThing (fun b => b < B) w9 v2 things) := Lib.hid (fun w9 k => (((L2.out.keep K2.out (fun _ _ _ h => h)).mono (fun b _ hb => (by have := HBB.out; have h9 : b < w.heap.size := hb; omega : b < B))).keep KT.out (fun b hb _ e => by omega)).keep k (fun b hb _ e => by omega))
          have S5 : Hid (∀ w9 : World, Keep (fun b => b = B) wr w9 → LAt eMob (fun b => b < B) w9 v3 mobs) := Lib.hid (fun w9 k => (((L3.out.keep K2.out (fun _ _ _ h => h)).mono (fun b _ hb => (by have := HBB.out; have h9 : b < w.heap.size := hb; omega : b < B))).keep KT.out (fun b hb _ e => by omega)).keep k (fun b hb _ e => by omega))
          have S7 : Hid (∀ w9 : World, Keep (fun b => b = B) wr w9 → LAt eLot (fun b => b < B) w9 v5 lots) := Lib.hid (fun w9 k => (((L5.out.keep K2.out (fun _ _ _ h => h)).mono (fun b _ hb => (by have := HBB.out; have h9 : b < w.heap.size := hb; omega : b < B))).keep KT.out (fun b hb _ e => by omega)).keep k (fun b hb _ e => by omega))
          have S8 : Hid (∀ w9 : World, Keep (fun b => b = B) wr w9 → LAt eTill (fun b => b < B) w9 v6 tills) := Lib.hid (fun w9 k => (((L6.out.keep K2.out (fun _ _ _ h => h)).mono (fun b _ hb => (by have := HBB.out; have h9 : b < w.heap.size := hb; omega : b < B))).keep KT.out (fun b hb _ e => by omega)).keep k (fun b hb _ e => by omega))
          have c4 : _ = some v2 := (HKB3.out wr HK1.out) 4 _ rfl
          have HKR : Hid (∀ w9 : World, Keep (fun b => b = B) wr w9 → w9.rangeAt g off (wcells now next minted (.slice a1 k d1) v2 v3 (.slice a4 k2 d4) v5 v6).toList) := Lib.hid (fun w9 k => HKB3.out w9 (HK1.out.trans k (fun _ e => .inl e)))
          clear hall hvH hoh HO HA1 HK1 HOC3 L2 L3 L5 L6 HA HA3 HKB HKB3 hm4 hm1
          go_wp2_with (first
            | (at_builtin
               (
                 refine wpList_copied flatThing (show 0 < eThing.size from by decide) Try.bThing Try.underlying23 rfl (.const (.slice none 0 0)) (.tmp 68) rfl rfl rfl (S4.out _ KB0.out) HW.out.things.2 (by omega) ?_
                 intro v7 w4 o7 k7
                 obtain ⟨b4a, b4d, ev7⟩ := o7.slice
                 obtain ⟨m4, en7⟩ : ∃ m, m = things.length := ⟨_, rfl⟩
                 rw [← en7] at ev7
                 subst ev7
                 clear en7
                 have M4 := Lib.hid (tail_mid (W' := wcells now next minted vC (.slice b4a m4 b4d) v3 vH v5 v6) (f := 4) HA0.out k7 o7 rfl rfl)
                 have p4' := M4.out.p
                 have f4' := M4.out.fz
                 have HA4' : Hid ((w4.setCell ⟨B, 4, none⟩ (.slice b4a m4 b4d)).heap[B]? = some (.cells (wcells now next minted vC (.slice b4a m4 b4d) v3 vH v5 v6) 29 (0, 0))) := Lib.hid M4.out.HA
                 have KB4 : Hid (Keep (fun b => b = B) wr (w4.setCell ⟨B, 4, none⟩ (.slice b4a m4 b4d))) := Lib.hid (KB0.out.trans M4.out.K (fun _ e => .inl e))
                 have c5' : _ = some v3 := (HKR.out (w4.setCell ⟨B, 4, none⟩ (.slice b4a m4 b4d)) KB4.out) 5 _ rfl
                 clear o7 k7))
            | (at_builtin
               (
                 refine wpList_copied flatMob (show 0 < eMob.size from by decide) Try.bMob Try.underlying24 rfl (.const (.slice none 0 0)) (.tmp 74) rfl rfl rfl (S5.out _ KB4.out) HW.out.mobs.2 (by omega) ?_
                 intro v7 w5 o7 k7
                 obtain ⟨b5a, b5d, ev7⟩ := o7.slice
                 obtain ⟨m5, en7⟩ : ∃ m, m = mobs.length := ⟨_, rfl⟩
                 rw [← en7] at ev7
                 subst ev7
                 clear en7
                 have M5 := Lib.hid (tail_mid (W' := wcells now next minted vC (.slice b4a m4 b4d) (.slice b5a m5 b5d) vH v5 v6) (f := 5) HA4'.out k7 o7 rfl rfl)
                 have p5' := M5.out.p
                 have f5' := M5.out.fz
                 have HA5' : Hid ((w5.setCell ⟨B, 5, none⟩ (.slice b5a m5 b5d)).heap[B]? = some (.cells (wcells now next minted vC (.slice b4a m4 b4d) (.slice b5a m5 b5d) vH v5 v6) 29 (0, 0))) := Lib.hid M5.out.HA
                 have KB5 : Hid (Keep (fun b => b = B) wr (w5.setCell ⟨B, 5, none⟩ (.slice b5a m5 b5d))) := Lib.hid (KB4.out.trans M5.out.K (fun _ e => .inl e))
                 have c7' : _ = some v5 := (HKR.out (w5.setCell ⟨B, 5, none⟩ (.slice b5a m5 b5d)) KB5.out) 7 _ rfl
                 clear o7 k7))
            | (at_builtin
               (
                 refine wpList_copied flatLot (show 0 < eLot.size from by decide) Try.bLot Try.underlying26 rfl (.const (.slice none 0 0)) (.tmp 80) rfl rfl rfl (S7.out _ KB5.out) HW.out.lots.2 (by omega) ?_
                 intro v7 w7 o7 k7
                 obtain ⟨b7a, b7d, ev7⟩ := o7.slice
                 obtain ⟨m7, en7⟩ : ∃ m, m = lots.length := ⟨_, rfl⟩
                 rw [← en7] at ev7
                 subst ev7
                 clear en7
                 have M7 := Lib.hid (tail_mid (W' := wcells now next minted vC (.slice b4a m4 b4d) (.slice b5a m5 b5d) vH (.slice b7a m7 b7d) v6) (f := 7) HA5'.out k7 o7 rfl rfl)
                 have p7' := M7.out.p
                 have f7' := M7.out.fz
                 have HA7' : Hid ((w7.setCell ⟨B, 7, none⟩ (.slice b7a m7 b7d)).heap[B]? = some (.cells (wcells now next minted vC (.slice b4a m4 b4d) (.slice b5a m5 b5d) vH (.slice b7a m7 b7d) v6) 29 (0, 0))) := Lib.hid M7.out.HA
                 have KB7 : Hid (Keep (fun b => b = B) wr (w7.setCell ⟨B, 7, none⟩ (.slice b7a m7 b7d))) := Lib.hid (KB5.out.trans M7.out.K (fun _ e => .inl e))
                 have c8' : _ = some v6 := (HKR.out (w7.setCell ⟨B, 7, none⟩ (.slice b7a m7 b7d)) KB7.out) 8 _ rfl
                 clear o7 k7))
            | (at_builtin
               (
                 refine wpList_copied flatTill (show 0 < eTill.size from by decide) Try.bTill Try.underlying27 rfl (.const (.slice none 0 0)) (.tmp 86) rfl rfl rfl (S8.out _ KB7.out) HW.out.tills.2 (by omega) ?_
                 intro v7 w8 o7 k7
                 obtain ⟨b8a, b8d, ev7⟩ := o7.slice
                 obtain ⟨m8, en7⟩ : ∃ m, m = tills.length := ⟨_, rfl⟩
                 rw [← en7] at ev7
                 subst ev7
                 clear en7
                 have M8 := Lib.hid (tail_mid (W' := wcells now next minted vC (.slice b4a m4 b4d) (.slice b5a m5 b5d) vH (.slice b7a m7 b7d) (.slice b8a m8 b8d)) (f := 8) HA7'.out k7 o7 rfl rfl)
                 have p8' := M8.out.p
                 have f8' := M8.out.fz
                 have HA8' : Hid ((w8.setCell ⟨B, 8, none⟩ (.slice b8a m8 b8d)).heap[B]? = some (.cells (wcells now next minted vC (.slice b4a m4 b4d) (.slice b5a m5 b5d) vH (.slice b7a m7 b7d) (.slice b8a m8 b8d)) 29 (0, 0))) := Lib.hid M8.out.HA
                 have KB8 : Hid (Keep (fun b => b = B) wr (w8.setCell ⟨B, 8, none⟩ (.slice b8a m8 b8d))) := Lib.hid (KB7.out.trans M8.out.K (fun _ e => .inl e))
                 clear o7 k7)))
          go_ret
          have hb := HBlt.out
          have s4 := M4.out.K.size
          have s5 := M5.out.K.size
          have s7 := M7.out.K.size
          have s8 := M8.out.K.size
          refine ⟨B, rfl, ⟨⟨B + 1, lo3, _, _, _, _, _, vC, _, _, vH, _, _, M8.out.HA, ?_, ?_, ?_, ?_, ?_, ?_, ?_, ?_, MC0.out.keep KB8.out (fun b hb1 hb2 e => by omega), MH0.out.keep KB8.out (fun b hb1 hb2 e => by omega),
            ((M4.out.m.keep M5.out.K (fun b hb1 hb2 e => by omega)).keep M7.out.K (fun b hb1 hb2 e => by omega)).keep M8.out.K (fun b hb1 hb2 e => by omega), (M5.out.m.keep M7.out.K (fun b hb1 hb2 e => by omega)).keep M8.out.K (fun b hb1 hb2 e => by omega),
            M7.out.m.keep M8.out.K (fun b hb1 hb2 e => by omega), M8.out.m⟩⟩, ?_⟩
          all_goals first
            | (have := HBB.out; omega)
            | (exact ((K2.out.trans KT.out (fun b e => .inr (by have := HBB.out; omega))).trans KB8.out (fun b e => .inr (by have := HBB.out; omega))))
end Go.Proofs.Ytpefkellcigpkaa.Cd
