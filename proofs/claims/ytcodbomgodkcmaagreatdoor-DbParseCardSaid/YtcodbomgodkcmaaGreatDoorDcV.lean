/- World files: the reference's Sort (made by tools/gendcn.py). -/
import Derived.Test.YtcodbomgodkcmaaGreatDoorDcU
import Derived.Test.YtcodbomgodkcmaaGreatDoorDbB
import Derived.BigRegion
import Derived.Deep.RegionHeld3
import Derived.Deep.CutBlock
import Derived.Deep.CutRange
namespace Go.Proofs.YtcodbomgodkcmaaGreatDoor.Wd
open Go.RowKit Go.Maps Go.Proofs.YtcodbomgodkcmaaGreatDoor Go.Proofs.YtcodbomgodkcmaaGreatDoor.Lin
set_option maxRecDepth 100000

theorem keep_drewN {F : Nat → Prop} (w : World) (n : Nat) : Keep F w (w.drewN n) := ⟨rfl, rfl, rfl, Nat.le_refl _, fun _ _ _ => rfl⟩
theorem wp_named {P : Program} {c : Code} {Q : Exit → Act → World → Prop} {a : Act} {w : World} (h : ∀ W, W = w → Code.wp P c Q a W) : Code.wp P c Q a w := h w rfl
theorem new_first (w : World) (o o2 : Obj) : (((w.alloc o).alloc o2).drew).heap[w.heap.size]? = some o := by
  show ((w.heap.push o).push o2)[w.heap.size]? = some o
  rw [Array.getElem?_push_lt (by simp)]
  simp
theorem new_second (w : World) (o o2 : Obj) : (((w.alloc o).alloc o2).drew).heap[w.heap.size + 1]? = some o2 := by
  show ((w.heap.push o).push o2)[w.heap.size + 1]? = some o2
  rw [show w.heap.size + 1 = (w.heap.push o).size by simp, Array.getElem?_push_size]
structure SwR (x y : List Value) (t : TypeId) (g : Nat) (W1 : World) (pa pb : Value) (wx : World) : Prop where
  ex : ∃ p4 p5 : Nat, pa = .pointer (some ⟨p4, 0, none⟩) ∧ pb = .pointer (some ⟨p5, 0, none⟩) ∧ wx.heap[p4]? = some (.cells y.toArray t (0, 0)) ∧ wx.heap[p5]? = some (.cells x.toArray t (0, 0)) ∧ Keep (fun _ => False) W1 wx ∧ p4 ≠ g ∧ p5 ≠ g
/-- The j-th of the parts that stand one behind the other; those behind them. -/
def seqPart : Nat → Code → Code
  | 0, .seq a _ => a
  | n + 1, .seq _ c => seqPart n c
  | _, c => c
def seqTail : Nat → Code → Code
  | 0, c => c
  | n + 1, .seq _ c => seqTail n c
  | _ + 1, c => c
/-- A frame of Sort: the tables' pointer in its first slot, whatever in the others. -/
theorem size_front (p : Value) (n : Nat) : (#[p] ++ Array.replicate n undef).size = n + 1 := by simp; omega
theorem getD_front (p : Value) (r : Array Value) : (#[p] ++ r).getD 0 undef = p := by
  rw [Array.getD_eq_getD_getElem?, Array.getElem?_append_left (by simp)]
  rfl
structure Fr (d : Nat) (a : Act) : Prop where
  df : a.defers = []
  sz : a.tmps.size = 410
  p0 : a.tmps.getD 0 undef = .pointer (some ⟨d, 0, none⟩)
theorem Fr.arr {d : Nat} {a : Act} (h : Fr d a) : ∃ u : Nat → Value, a = { tmps := #[.pointer (some ⟨d, 0, none⟩), u 1, u 2, u 3, u 4, u 5, u 6, u 7, u 8, u 9, u 10, u 11, u 12, u 13, u 14, u 15, u 16, u 17, u 18, u 19, u 20, u 21, u 22, u 23, u 24, u 25, u 26, u 27, u 28, u 29, u 30, u 31, u 32, u 33, u 34, u 35, u 36, u 37, u 38, u 39, u 40, u 41, u 42, u 43, u 44, u 45, u 46, u 47, u 48, u 49, u 50, u 51, u 52, u 53, u 54, u 55, u 56, u 57, u 58, u 59, u 60, u 61, u 62, u 63, u 64, u 65, u 66, u 67, u 68, u 69, u 70, u 71, u 72, u 73, u 74, u 75, u 76, u 77, u 78, u 79, u 80, u 81, u 82, u 83, u 84, u 85, u 86, u 87, u 88, u 89, u 90, u 91, u 92, u 93, u 94, u 95, u 96, u 97, u 98, u 99, u 100, u 101, u 102, u 103, u 104, u 105, u 106, u 107, u 108, u 109, u 110, u 111, u 112, u 113, u 114, u 115, u 116, u 117, u 118, u 119, u 120, u 121, u 122, u 123, u 124, u 125, u 126, u 127, u 128, u 129, u 130, u 131, u 132, u 133, u 134, u 135, u 136, u 137, u 138, u 139, u 140, u 141, u 142, u 143, u 144, u 145, u 146, u 147, u 148, u 149, u 150, u 151, u 152, u 153, u 154, u 155, u 156, u 157, u 158, u 159, u 160, u 161, u 162, u 163, u 164, u 165, u 166, u 167, u 168, u 169, u 170, u 171, u 172, u 173, u 174, u 175, u 176, u 177, u 178, u 179, u 180, u 181, u 182, u 183, u 184, u 185, u 186, u 187, u 188, u 189, u 190, u 191, u 192, u 193, u 194, u 195, u 196, u 197, u 198, u 199, u 200, u 201, u 202, u 203, u 204, u 205, u 206, u 207, u 208, u 209, u 210, u 211, u 212, u 213, u 214, u 215, u 216, u 217, u 218, u 219, u 220, u 221, u 222, u 223, u 224, u 225, u 226, u 227, u 228, u 229, u 230, u 231, u 232, u 233, u 234, u 235, u 236, u 237, u 238, u 239, u 240, u 241, u 242, u 243, u 244, u 245, u 246, u 247, u 248, u 249, u 250, u 251, u 252, u 253, u 254, u 255, u 256, u 257, u 258, u 259, u 260, u 261, u 262, u 263, u 264, u 265, u 266, u 267, u 268, u 269, u 270, u 271, u 272, u 273, u 274, u 275, u 276, u 277, u 278, u 279, u 280, u 281, u 282, u 283, u 284, u 285, u 286, u 287, u 288, u 289, u 290, u 291, u 292, u 293, u 294, u 295, u 296, u 297, u 298, u 299, u 300, u 301, u 302, u 303, u 304, u 305, u 306, u 307, u 308, u 309, u 310, u 311, u 312, u 313, u 314, u 315, u 316, u 317, u 318, u 319, u 320, u 321, u 322, u 323, u 324, u 325, u 326, u 327, u 328, u 329, u 330, u 331, u 332, u 333, u 334, u 335, u 336, u 337, u 338, u 339, u 340, u 341, u 342, u 343, u 344, u 345, u 346, u 347, u 348, u 349, u 350, u 351, u 352, u 353, u 354, u 355, u 356, u 357, u 358, u 359, u 360, u 361, u 362, u 363, u 364, u 365, u 366, u 367, u 368, u 369, u 370, u 371, u 372, u 373, u 374, u 375, u 376, u 377, u 378, u 379, u 380, u 381, u 382, u 383, u 384, u 385, u 386, u 387, u 388, u 389, u 390, u 391, u 392, u 393, u 394, u 395, u 396, u 397, u 398, u 399, u 400, u 401, u 402, u 403, u 404, u 405, u 406, u 407, u 408, u 409], defers := [] } := by
  obtain ⟨t, ds⟩ := a
  obtain ⟨h1, h2, h3⟩ := h
  simp only at h1 h2 h3
  subst h1
  refine ⟨fun i => t.getD i undef, ?_⟩
  rw [← h3]
  congr 1
  have e : t = ((List.range 410).map fun i => t.getD i undef).toArray := by
    apply Array.ext
    · simp [h2]
    · intro i hi _
      simp [Array.getD, hi]
  exact e

set_option maxHeartbeats 16000000 in
theorem sortPart1 {s1 : World} {d : Nat} {v1 v2 v3 v4 v5 v6 : Value} {L : List (RoomM)} (hb : s1.heap[d]? = some (.cells #[v1, v2, v3, v4, v5, v6] 50 (0, 0))) (h1 : Rec s1 53 roomC 10 v1 L) (hnl : L.length ≤ 1000000) {a : Act} (ha : Fr d a) {Q : Exit → Act → World → Prop}
    (hQ : ∀ a' w' M, Fr d a' → SortOf RoomM.id L M → Rec w' 53 roomC 10 v1 M → Keep (fun b => v1.ownBlock = some b) s1 w' → Q .normal a' w') : (seqPart 0 (Tryz.f23.body.getD .skip)).wp Tryz.prog Q a s1 := by
  obtain ⟨u, rfl⟩ := ha.arr
  have HQ := Lib.hid hQ
  have HBK := Lib.hid hb

  clear ha hQ hb
  simp only [Tryz.f23, Option.getD_some, seqPart]
  obtain ⟨va, vc, hve, hc1, hc2⟩ := h1.slice
  rw [hve] at h1
  unfold maxLen at hc2
  have HVE := Lib.hid hve
  have p1 : s1.cell? ⟨d, 0, none⟩ = some (.slice va L.length vc) := by rw [← hve]; exact (cell_of_row s1 d 0 _ _ _ HBK.out).trans rfl
  have HND : Hid (∀ b, (Value.slice va L.length vc).ownBlock = some b → d ≠ b) := Lib.hid (fun b hb e => by subst e; obtain ⟨cs, f, e⟩ := h1.type hb; exact ty_ne HBK.out e (by decide) rfl)
  have HP : Hid (∀ w9, Keep (fun b => (Value.slice va L.length vc).ownBlock = some b) s1 w9 → w9.cell? ⟨d, 0, none⟩ = some (.slice va L.length vc)) := Lib.hid (fun w9 k => (k.cell (World.block_lt_of_cell? _ _ p1) (fun hf => HND.out d hf rfl) _).trans p1)
  have H1 := Lib.hid h1
  clear h1 hve p1
  go_wp2
  go_loopw [2, 3, 4, 5] (fun iv _ _ _ wr => SoO RoomM.id 53 roomC 10 (.slice va L.length vc) L s1 iv wr) (fun iv _ _ _ _ => L.length - (intOf iv).toNat)
  case atStart => exact ⟨[], L, rfl, List.Perm.refl _, List.Pairwise.nil, H1.out, Keep.refl _ _⟩
  case round =>
    obtain ⟨A, C, rfl, hp, hs, hr, hk⟩ := hrel.ex
    have HPM := Lib.hid hp; have HS := Lib.hid hs; have HR := Lib.hid hr; have HK := Lib.hid hk
    have q0 := HP.out wr hk
    have hlen := hp.length_eq
    rw [List.length_append] at hlen
    clear hp hs hr hk hrel
    obtain ⟨i, hi⟩ : ∃ i, i = A.length := ⟨_, rfl⟩
    rw [← hi] at hlen ⊢
    by_cases hlt : i < L.length
    · have hd1 : decide (i < L.length) = true := by simpa using hlt
      obtain ⟨x0, C0, rfl⟩ : ∃ x C', C = x :: C' := by
        cases C with
        | nil => simp at hlen; omega
        | cons x C' => exact ⟨x, C', rfl⟩
      obtain ⟨g, off, rfl, _⟩ := HR.out.some (i := i) (x := x0) (by rw [hi]; exact mid_get)
      have HI := Lib.hid hi
      clear hi
      go_wp2
      go_loopw [3, 4, 5] (fun kv _ _ wq => SoI RoomM.id 53 roomC 10 (.slice (some ⟨g, off, none⟩) L.length vc) L i s1 kv wq) (fun kv _ _ _ => (intOf kv).toNat)
      case atStart => exact ⟨A, x0, [], C0, by rw [HI.out], by rw [HI.out]; rfl, HPM.out, by simpa using HS.out, by simp, HR.out, HK.out⟩
      case round =>
        obtain ⟨A2, x, B2, C2, rfl, hab, hp, hs, hB, hr, hk⟩ := hrel.ex
        have HPM2 := Lib.hid hp; have HS2 := Lib.hid hs; have HB2 := Lib.hid hB; have HR2 := Lib.hid hr; have HKQ := Lib.hid hk; have HAB := Lib.hid hab
        have r0 := HP.out wr hk
        clear hp hs hB hr hk hrel hab q0
        have HEX : Hid (∀ (w9 : World) (_ : Keep (fun _ => False) wr w9) (_ : A2 = [] ∨ ∃ A' y, A2 = A' ++ [y] ∧ RoomM.id y ≤ RoomM.id x), SoO RoomM.id 53 roomC 10 (.slice (some ⟨g, off, none⟩) L.length vc) L s1 (.int .i64 ((i + 1 : Nat) : Int)) w9) := Lib.hid (fun w9 k9 hA =>
          ⟨A2 ++ x :: B2, C2, by rw [List.length_append, List.length_cons, ← HAB.out]; rfl, by simpa using HPM2.out, so_done HS2.out HB2.out hA, by simpa using HR2.out.keep k9 (fun _ _ h => h), HKQ.out.trans k9 (fun _ h => h.elim)⟩)
        rcases List.eq_nil_or_concat A2 with hA | ⟨A', y, hA⟩
        · subst hA
          go_wp2
          go_quiet (fail)
          go_wp2
          go_roundw
          case rel => have T := HEX.out (wr.drewN nq) (keep_drewN wr nq) (Or.inl (by simp)); first | exact T | ((repeat apply Exists.intro); first | exact T | exact ⟨T, rfl⟩)
          case measure => simp [intOf]; omega
        · have hA' : A2 = A' ++ [y] := by simpa using hA
          subst hA'
          obtain ⟨m, hm⟩ : ∃ m, m = A'.length := ⟨_, rfl⟩
          have HMM := Lib.hid hm
          obtain ⟨j, hj⟩ : ∃ j, j = m + 1 := ⟨_, rfl⟩
          have hal : (A' ++ [y]).length = j := by rw [hj, hm]; simp
          have hml : j < L.length := by have h0 := HPM2.out.length_eq; rw [List.length_append, hal, List.length_cons] at h0; omega
          have HALL : Hid ((A' ++ [y]) ++ x :: (B2 ++ C2) = A' ++ y :: (x :: (B2 ++ C2))) := Lib.hid (by simp)
          have HCX : Hid (roomC x = [.int .i64 x.id, .string x.name, .int .i64 x.kind, .int .i64 x.price, .int .i64 x.e0, .int .i64 x.e1, .int .i64 x.e2, .int .i64 x.e3, .int .i64 x.e4, .int .i64 x.e5]) := Lib.hid (rfl)
          have HCY : Hid (roomC y = [.int .i64 y.id, .string y.name, .int .i64 y.kind, .int .i64 y.price, .int .i64 y.e0, .int .i64 y.e1, .int .i64 y.e2, .int .i64 y.e3, .int .i64 y.e4, .int .i64 y.e5]) := Lib.hid (rfl)
          have hry := HR2.out.range roomC_len m y (by rw [HALL.out, hm]; exact mid_get)
          have hrx := HR2.out.range roomC_len j x (by rw [← hal]; exact mid_get)
          have cy : wr.cell? ⟨g, off + m * 10, none⟩ = some (.int .i64 y.id) := hry 0 _ rfl
          have cx : wr.cell? ⟨g, off + j * 10, none⟩ = some (.int .i64 x.id) := hrx 0 _ rfl
          have HRY := Lib.hid hry; have HRX := Lib.hid hrx
          rw [hal]
          have hw1 : IntKind.i64.wrap ((j : Int) - 1) = (j : Int) - 1 := IntWalk.i64_in _ (by omega)
          have hw2 : (0 : Int) ≤ (j : Int) - 1 := by omega
          have hw3 : (1 : Int) ≤ (j : Int) := by omega
          have hw4 : (j : Int) - 1 < (L.length : Int) := by omega
          have hw5 : ((j : Int) - 1).toNat = m := by omega
          have hd0 : decide (0 < j) = true := by rw [decide_eq_true_eq]; omega
          have HJ := Lib.hid hj
          have HAL := Lib.hid hal
          clear hm hal hA hry hrx hj
          by_cases hxy : x.id < y.id
          · have dxy : decide (x.id < y.id) = true := by simpa using hxy
            go_wp2
            go_quiet (fail)
            go_upto_region 6 with (fail)
            have K1 := Lib.hid (keep_drewN (F := fun _ => False) wr nq)
            generalize wr.drewN nq = W1 at K1 ⊢
            have HRY1 : W1.rangeAt g (off + m * 10) (roomC y) := range_keep HRY.out K1.out (HR2.out.row.lt rfl) (fun h => h)
            have HRX1 : W1.rangeAt g (off + j * 10) (roomC x) := range_keep HRX.out K1.out (HR2.out.row.lt rfl) (fun h => h)
            have c1 : W1.cell? ⟨d, 0, none⟩ = some (.slice (some ⟨g, off, none⟩) L.length vc) := (K1.out.cell (World.block_lt_of_cell? _ _ r0) (fun h => h) _).trans r0
            have qy0 : W1.cell? ⟨g, off + m * 10, none⟩ = some (.int .i64 y.id) := HRY1 0 _ (by rw [HCY.out]; rfl)
            have qy1 : W1.cell? ⟨g, off + m * 10 + 1, none⟩ = some (.string y.name) := HRY1 1 _ (by rw [HCY.out]; rfl)
            have qy2 : W1.cell? ⟨g, off + m * 10 + 2, none⟩ = some (.int .i64 y.kind) := HRY1 2 _ (by rw [HCY.out]; rfl)
            have qy3 : W1.cell? ⟨g, off + m * 10 + 3, none⟩ = some (.int .i64 y.price) := HRY1 3 _ (by rw [HCY.out]; rfl)
            have qy4 : W1.cell? ⟨g, off + m * 10 + 4, none⟩ = some (.int .i64 y.e0) := HRY1 4 _ (by rw [HCY.out]; rfl)
            have qy5 : W1.cell? ⟨g, off + m * 10 + 5, none⟩ = some (.int .i64 y.e1) := HRY1 5 _ (by rw [HCY.out]; rfl)
            have qy6 : W1.cell? ⟨g, off + m * 10 + 6, none⟩ = some (.int .i64 y.e2) := HRY1 6 _ (by rw [HCY.out]; rfl)
            have qy7 : W1.cell? ⟨g, off + m * 10 + 7, none⟩ = some (.int .i64 y.e3) := HRY1 7 _ (by rw [HCY.out]; rfl)
            have qy8 : W1.cell? ⟨g, off + m * 10 + 8, none⟩ = some (.int .i64 y.e4) := HRY1 8 _ (by rw [HCY.out]; rfl)
            have qy9 : W1.cell? ⟨g, off + m * 10 + 9, none⟩ = some (.int .i64 y.e5) := HRY1 9 _ (by rw [HCY.out]; rfl)
            have qx0 : W1.cell? ⟨g, off + j * 10, none⟩ = some (.int .i64 x.id) := HRX1 0 _ (by rw [HCX.out]; rfl)
            have qx1 : W1.cell? ⟨g, off + j * 10 + 1, none⟩ = some (.string x.name) := HRX1 1 _ (by rw [HCX.out]; rfl)
            have qx2 : W1.cell? ⟨g, off + j * 10 + 2, none⟩ = some (.int .i64 x.kind) := HRX1 2 _ (by rw [HCX.out]; rfl)
            have qx3 : W1.cell? ⟨g, off + j * 10 + 3, none⟩ = some (.int .i64 x.price) := HRX1 3 _ (by rw [HCX.out]; rfl)
            have qx4 : W1.cell? ⟨g, off + j * 10 + 4, none⟩ = some (.int .i64 x.e0) := HRX1 4 _ (by rw [HCX.out]; rfl)
            have qx5 : W1.cell? ⟨g, off + j * 10 + 5, none⟩ = some (.int .i64 x.e1) := HRX1 5 _ (by rw [HCX.out]; rfl)
            have qx6 : W1.cell? ⟨g, off + j * 10 + 6, none⟩ = some (.int .i64 x.e2) := HRX1 6 _ (by rw [HCX.out]; rfl)
            have qx7 : W1.cell? ⟨g, off + j * 10 + 7, none⟩ = some (.int .i64 x.e3) := HRX1 7 _ (by rw [HCX.out]; rfl)
            have qx8 : W1.cell? ⟨g, off + j * 10 + 8, none⟩ = some (.int .i64 x.e4) := HRX1 8 _ (by rw [HCX.out]; rfl)
            have qx9 : W1.cell? ⟨g, off + j * 10 + 9, none⟩ = some (.int .i64 x.e5) := HRX1 9 _ (by rw [HCX.out]; rfl)
            have hz : ∀ w : World, (zeroValue 53).run Tryz.prog w = .ok (.agg #[.int .i64 0, .string ⟨#[]⟩, .int .i64 0, .int .i64 0, .int .i64 0, .int .i64 0, .int .i64 0, .int .i64 0, .int .i64 0, .int .i64 0]) w := fun w => by kernel_rfl
            clear r0 cy cx HRY1 HRX1
            have hgl : g < W1.heap.size := Nat.lt_of_lt_of_le (HR2.out.row.lt rfl) K1.out.size
            have hdl : d < W1.heap.size := World.block_lt_of_cell? _ _ c1
            go_cut [4, 5] from 36 to 89 (fun pa pb wx => SwR (roomC x) (roomC y) 53 g W1 pa pb wx)
            case first =>
              go_region_held3 (fun w' => w'.cell? ⟨d, 0, none⟩ = some (.slice (some ⟨g, off, none⟩) L.length vc) ∧ w'.cell? ⟨g, off + m * 10, none⟩ = some (.int .i64 y.id) ∧ w'.cell? ⟨g, off + m * 10 + 1, none⟩ = some (.string y.name) ∧ w'.cell? ⟨g, off + m * 10 + 2, none⟩ = some (.int .i64 y.kind) ∧ w'.cell? ⟨g, off + m * 10 + 3, none⟩ = some (.int .i64 y.price) ∧ w'.cell? ⟨g, off + m * 10 + 4, none⟩ = some (.int .i64 y.e0) ∧ w'.cell? ⟨g, off + m * 10 + 5, none⟩ = some (.int .i64 y.e1) ∧ w'.cell? ⟨g, off + m * 10 + 6, none⟩ = some (.int .i64 y.e2) ∧ w'.cell? ⟨g, off + m * 10 + 7, none⟩ = some (.int .i64 y.e3) ∧ w'.cell? ⟨g, off + m * 10 + 8, none⟩ = some (.int .i64 y.e4) ∧ w'.cell? ⟨g, off + m * 10 + 9, none⟩ = some (.int .i64 y.e5) ∧ w'.cell? ⟨g, off + j * 10, none⟩ = some (.int .i64 x.id) ∧ w'.cell? ⟨g, off + j * 10 + 1, none⟩ = some (.string x.name) ∧ w'.cell? ⟨g, off + j * 10 + 2, none⟩ = some (.int .i64 x.kind) ∧ w'.cell? ⟨g, off + j * 10 + 3, none⟩ = some (.int .i64 x.price) ∧ w'.cell? ⟨g, off + j * 10 + 4, none⟩ = some (.int .i64 x.e0) ∧ w'.cell? ⟨g, off + j * 10 + 5, none⟩ = some (.int .i64 x.e1) ∧ w'.cell? ⟨g, off + j * 10 + 6, none⟩ = some (.int .i64 x.e2) ∧ w'.cell? ⟨g, off + j * 10 + 7, none⟩ = some (.int .i64 x.e3) ∧ w'.cell? ⟨g, off + j * 10 + 8, none⟩ = some (.int .i64 x.e4) ∧ w'.cell? ⟨g, off + j * 10 + 9, none⟩ = some (.int .i64 x.e5)) (go_keep) (first | fail)
              all_goals go_wp2_with fail
              all_goals go_meet
              · exact ⟨_, _, rfl, rfl, by rw [HCY.out]; exact new_first W1 _ _, by rw [HCX.out]; exact new_second W1 _ _, (((Keep.refl _ W1).alloc _).alloc _).drew, by omega, by omega⟩
              · exact ⟨_, _, rfl, rfl, by rw [HCY.out]; exact new_second W1 _ _, by rw [HCX.out]; exact new_first W1 _ _, (((Keep.refl _ W1).alloc _).alloc _).drew, by omega, by omega⟩
            case rest =>
              obtain ⟨p4, p5, rfl, rfl, b4, b5, K2, h4g, h5g⟩ := hcut.ex
              rename World => W2
              have h4s : p4 < W2.heap.size := lt_of_block b4
              have HB4 := Lib.hid b4; have HB5 := Lib.hid b5; have HK2 := Lib.hid K2; have H4S := Lib.hid h4s
              clear b4 b5 K2 h4s hz hcut qy0 qy1 qy2 qy3 qy4 qy5 qy6 qy7 qy8 qy9 qx0 qx1 qx2 qx3 qx4 qx5 qx6 qx7 qx8 qx9
              go_wp2
              have hdg : d ≠ g := HND.out g rfl
              have HRA := Lib.hid ((HR2.out.keep K1.out (fun _ _ h => h)).keep HK2.out (fun _ _ h => h))
              have d2 : W2.cell? ⟨d, 0, none⟩ = some (.slice (some ⟨g, off, none⟩) L.length vc) := (HK2.out.cell hdl (fun h => h) _).trans c1
              clear c1
              have HT1 := Lib.hid (HRA.out.there (i := m) (by rw [HALL.out, List.length_append]; simp; have := HMM.out; omega))
              have x0 : W2.cell? ⟨p5, 0, none⟩ = some (.int .i64 x.id) := (cell_of_row W2 p5 0 _ _ _ HB5.out).trans (by rw [HCX.out]; rfl)
              have x1 : W2.cell? ⟨p5, 1, none⟩ = some (.string x.name) := (cell_of_row W2 p5 1 _ _ _ HB5.out).trans (by rw [HCX.out]; rfl)
              have x2 : W2.cell? ⟨p5, 2, none⟩ = some (.int .i64 x.kind) := (cell_of_row W2 p5 2 _ _ _ HB5.out).trans (by rw [HCX.out]; rfl)
              have x3 : W2.cell? ⟨p5, 3, none⟩ = some (.int .i64 x.price) := (cell_of_row W2 p5 3 _ _ _ HB5.out).trans (by rw [HCX.out]; rfl)
              have x4 : W2.cell? ⟨p5, 4, none⟩ = some (.int .i64 x.e0) := (cell_of_row W2 p5 4 _ _ _ HB5.out).trans (by rw [HCX.out]; rfl)
              have x5 : W2.cell? ⟨p5, 5, none⟩ = some (.int .i64 x.e1) := (cell_of_row W2 p5 5 _ _ _ HB5.out).trans (by rw [HCX.out]; rfl)
              have x6 : W2.cell? ⟨p5, 6, none⟩ = some (.int .i64 x.e2) := (cell_of_row W2 p5 6 _ _ _ HB5.out).trans (by rw [HCX.out]; rfl)
              have x7 : W2.cell? ⟨p5, 7, none⟩ = some (.int .i64 x.e3) := (cell_of_row W2 p5 7 _ _ _ HB5.out).trans (by rw [HCX.out]; rfl)
              have x8 : W2.cell? ⟨p5, 8, none⟩ = some (.int .i64 x.e4) := (cell_of_row W2 p5 8 _ _ _ HB5.out).trans (by rw [HCX.out]; rfl)
              have x9 : W2.cell? ⟨p5, 9, none⟩ = some (.int .i64 x.e5) := (cell_of_row W2 p5 9 _ _ _ HB5.out).trans (by rw [HCX.out]; rfl)
              obtain ⟨u0, e0⟩ := Option.isSome_iff_exists.1 (HT1.out 0 (by omega)).1
              have f0 := (HT1.out 0 (by omega)).2
              obtain ⟨u1, e1⟩ := Option.isSome_iff_exists.1 (HT1.out 1 (by omega)).1
              have f1 := (HT1.out 1 (by omega)).2
              obtain ⟨u2, e2⟩ := Option.isSome_iff_exists.1 (HT1.out 2 (by omega)).1
              have f2 := (HT1.out 2 (by omega)).2
              obtain ⟨u3, e3⟩ := Option.isSome_iff_exists.1 (HT1.out 3 (by omega)).1
              have f3 := (HT1.out 3 (by omega)).2
              obtain ⟨u4, e4⟩ := Option.isSome_iff_exists.1 (HT1.out 4 (by omega)).1
              have f4 := (HT1.out 4 (by omega)).2
              obtain ⟨u5, e5⟩ := Option.isSome_iff_exists.1 (HT1.out 5 (by omega)).1
              have f5 := (HT1.out 5 (by omega)).2
              obtain ⟨u6, e6⟩ := Option.isSome_iff_exists.1 (HT1.out 6 (by omega)).1
              have f6 := (HT1.out 6 (by omega)).2
              obtain ⟨u7, e7⟩ := Option.isSome_iff_exists.1 (HT1.out 7 (by omega)).1
              have f7 := (HT1.out 7 (by omega)).2
              obtain ⟨u8, e8⟩ := Option.isSome_iff_exists.1 (HT1.out 8 (by omega)).1
              have f8 := (HT1.out 8 (by omega)).2
              obtain ⟨u9, e9⟩ := Option.isSome_iff_exists.1 (HT1.out 9 (by omega)).1
              have f9 := (HT1.out 9 (by omega)).2
              simp only [Nat.add_zero] at e0 f0
              have HE1 : Hid (W2.setCells g (off + m * 10) (roomC x) = ((((((((((W2.setCell ⟨g, off + m * 10, none⟩ (.int .i64 x.id)).setCell ⟨g, off + m * 10 + 1, none⟩ (.string x.name)).setCell ⟨g, off + m * 10 + 2, none⟩ (.int .i64 x.kind)).setCell ⟨g, off + m * 10 + 3, none⟩ (.int .i64 x.price)).setCell ⟨g, off + m * 10 + 4, none⟩ (.int .i64 x.e0)).setCell ⟨g, off + m * 10 + 5, none⟩ (.int .i64 x.e1)).setCell ⟨g, off + m * 10 + 6, none⟩ (.int .i64 x.e2)).setCell ⟨g, off + m * 10 + 7, none⟩ (.int .i64 x.e3)).setCell ⟨g, off + m * 10 + 8, none⟩ (.int .i64 x.e4)).setCell ⟨g, off + m * 10 + 9, none⟩ (.int .i64 x.e5))) := Lib.hid (by rw [HCX.out]; rfl)
              have KS : Keep (fun b => b = g) W2 (((((((((((W2.setCell ⟨g, off + m * 10, none⟩ (.int .i64 x.id)).setCell ⟨g, off + m * 10 + 1, none⟩ (.string x.name)).setCell ⟨g, off + m * 10 + 2, none⟩ (.int .i64 x.kind)).setCell ⟨g, off + m * 10 + 3, none⟩ (.int .i64 x.price)).setCell ⟨g, off + m * 10 + 4, none⟩ (.int .i64 x.e0)).setCell ⟨g, off + m * 10 + 5, none⟩ (.int .i64 x.e1)).setCell ⟨g, off + m * 10 + 6, none⟩ (.int .i64 x.e2)).setCell ⟨g, off + m * 10 + 7, none⟩ (.int .i64 x.e3)).setCell ⟨g, off + m * 10 + 8, none⟩ (.int .i64 x.e4)).setCell ⟨g, off + m * 10 + 9, none⟩ (.int .i64 x.e5))).drew := by rw [← HE1.out]; exact (keep_cells _ _).drew
              have HS1 : Hid ((fun w' : World => w'.cell? ⟨d, 0, none⟩ = some (.slice (some ⟨g, off, none⟩) L.length vc) ∧ w'.cell? ⟨p5, 0, none⟩ = some (.int .i64 x.id) ∧ w'.cell? ⟨p5, 1, none⟩ = some (.string x.name) ∧ w'.cell? ⟨p5, 2, none⟩ = some (.int .i64 x.kind) ∧ w'.cell? ⟨p5, 3, none⟩ = some (.int .i64 x.price) ∧ w'.cell? ⟨p5, 4, none⟩ = some (.int .i64 x.e0) ∧ w'.cell? ⟨p5, 5, none⟩ = some (.int .i64 x.e1) ∧ w'.cell? ⟨p5, 6, none⟩ = some (.int .i64 x.e2) ∧ w'.cell? ⟨p5, 7, none⟩ = some (.int .i64 x.e3) ∧ w'.cell? ⟨p5, 8, none⟩ = some (.int .i64 x.e4) ∧ w'.cell? ⟨p5, 9, none⟩ = some (.int .i64 x.e5)) (((((((((((W2.setCell ⟨g, off + m * 10, none⟩ (.int .i64 x.id)).setCell ⟨g, off + m * 10 + 1, none⟩ (.string x.name)).setCell ⟨g, off + m * 10 + 2, none⟩ (.int .i64 x.kind)).setCell ⟨g, off + m * 10 + 3, none⟩ (.int .i64 x.price)).setCell ⟨g, off + m * 10 + 4, none⟩ (.int .i64 x.e0)).setCell ⟨g, off + m * 10 + 5, none⟩ (.int .i64 x.e1)).setCell ⟨g, off + m * 10 + 6, none⟩ (.int .i64 x.e2)).setCell ⟨g, off + m * 10 + 7, none⟩ (.int .i64 x.e3)).setCell ⟨g, off + m * 10 + 8, none⟩ (.int .i64 x.e4)).setCell ⟨g, off + m * 10 + 9, none⟩ (.int .i64 x.e5))).drew) := Lib.hid ⟨(KS.cell (World.block_lt_of_cell? _ _ d2) hdg _).trans d2, (KS.cell (World.block_lt_of_cell? _ _ x0) h5g _).trans x0, (KS.cell (World.block_lt_of_cell? _ _ x1) h5g _).trans x1, (KS.cell (World.block_lt_of_cell? _ _ x2) h5g _).trans x2, (KS.cell (World.block_lt_of_cell? _ _ x3) h5g _).trans x3, (KS.cell (World.block_lt_of_cell? _ _ x4) h5g _).trans x4, (KS.cell (World.block_lt_of_cell? _ _ x5) h5g _).trans x5, (KS.cell (World.block_lt_of_cell? _ _ x6) h5g _).trans x6, (KS.cell (World.block_lt_of_cell? _ _ x7) h5g _).trans x7, (KS.cell (World.block_lt_of_cell? _ _ x8) h5g _).trans x8, (KS.cell (World.block_lt_of_cell? _ _ x9) h5g _).trans x9⟩
              have HKS := Lib.hid KS
              clear KS
              go_region_held3 (fun w' => w'.cell? ⟨d, 0, none⟩ = some (.slice (some ⟨g, off, none⟩) L.length vc) ∧ w'.cell? ⟨p5, 0, none⟩ = some (.int .i64 x.id) ∧ w'.cell? ⟨p5, 1, none⟩ = some (.string x.name) ∧ w'.cell? ⟨p5, 2, none⟩ = some (.int .i64 x.kind) ∧ w'.cell? ⟨p5, 3, none⟩ = some (.int .i64 x.price) ∧ w'.cell? ⟨p5, 4, none⟩ = some (.int .i64 x.e0) ∧ w'.cell? ⟨p5, 5, none⟩ = some (.int .i64 x.e1) ∧ w'.cell? ⟨p5, 6, none⟩ = some (.int .i64 x.e2) ∧ w'.cell? ⟨p5, 7, none⟩ = some (.int .i64 x.e3) ∧ w'.cell? ⟨p5, 8, none⟩ = some (.int .i64 x.e4) ∧ w'.cell? ⟨p5, 9, none⟩ = some (.int .i64 x.e5)) (first | (go_keep; done) | exact HS1.out) (first | fail)
              clear HS1 x0 e0 f0 x1 e1 f1 x2 e2 f2 x3 e3 f3 x4 e4 f4 x5 e5 f5 x6 e6 f6 x7 e7 f7 x8 e8 f8 x9 e9 f9
              clear u0 u1 u2 u3 u4 u5 u6 u7 u8 u9
              generalize hW3 : (((((((((((W2.setCell ⟨g, off + m * 10, none⟩ (.int .i64 x.id)).setCell ⟨g, off + m * 10 + 1, none⟩ (.string x.name)).setCell ⟨g, off + m * 10 + 2, none⟩ (.int .i64 x.kind)).setCell ⟨g, off + m * 10 + 3, none⟩ (.int .i64 x.price)).setCell ⟨g, off + m * 10 + 4, none⟩ (.int .i64 x.e0)).setCell ⟨g, off + m * 10 + 5, none⟩ (.int .i64 x.e1)).setCell ⟨g, off + m * 10 + 6, none⟩ (.int .i64 x.e2)).setCell ⟨g, off + m * 10 + 7, none⟩ (.int .i64 x.e3)).setCell ⟨g, off + m * 10 + 8, none⟩ (.int .i64 x.e4)).setCell ⟨g, off + m * 10 + 9, none⟩ (.int .i64 x.e5))).drew = W3
              have hW4 : W3 = (W2.setCells g (off + m * 10) (roomC x)).drew := by rw [HE1.out]; exact hW3.symm
              have HKW3 : Hid (Keep (fun b => b = g) W2 W3) := Lib.hid (by rw [← hW3]; exact HKS.out)
              have HRB : Hid (Rec W3 53 roomC 10 (.slice (some ⟨g, off, none⟩) L.length vc) ((A' ++ [x]) ++ x :: (B2 ++ C2))) := Lib.hid (by
                rw [hW4]
                have h0 := HRA.out
                rw [HALL.out] at h0
                have h1 := h0.put roomC_len x
                rw [← HMM.out] at h1
                have h2 : (A' ++ [x]) ++ x :: (B2 ++ C2) = A' ++ x :: (x :: (B2 ++ C2)) := by simp
                rw [h2]
                exact Row.drew h1)
              have d3 : W3.cell? ⟨d, 0, none⟩ = some (.slice (some ⟨g, off, none⟩) L.length vc) := (HKW3.out.cell (World.block_lt_of_cell? _ _ d2) hdg _).trans d2
              have HB6 : Hid (W3.heap[p4]? = some (.cells (roomC y).toArray 53 (0, 0))) := Lib.hid ((HKW3.out.block p4 H4S.out h4g).trans HB4.out)
              clear hW3 hW4 HE1 HKS HT1 d2 HB4 HB5
              go_wp2
              have HT2 := Lib.hid (HRB.out.there (i := j) (by rw [List.length_append, List.length_append, List.length_cons]; simp; have := HMM.out; have := HJ.out; omega))
              have x0 : W3.cell? ⟨p4, 0, none⟩ = some (.int .i64 y.id) := (cell_of_row W3 p4 0 _ _ _ HB6.out).trans (by rw [HCY.out]; rfl)
              have x1 : W3.cell? ⟨p4, 1, none⟩ = some (.string y.name) := (cell_of_row W3 p4 1 _ _ _ HB6.out).trans (by rw [HCY.out]; rfl)
              have x2 : W3.cell? ⟨p4, 2, none⟩ = some (.int .i64 y.kind) := (cell_of_row W3 p4 2 _ _ _ HB6.out).trans (by rw [HCY.out]; rfl)
              have x3 : W3.cell? ⟨p4, 3, none⟩ = some (.int .i64 y.price) := (cell_of_row W3 p4 3 _ _ _ HB6.out).trans (by rw [HCY.out]; rfl)
              have x4 : W3.cell? ⟨p4, 4, none⟩ = some (.int .i64 y.e0) := (cell_of_row W3 p4 4 _ _ _ HB6.out).trans (by rw [HCY.out]; rfl)
              have x5 : W3.cell? ⟨p4, 5, none⟩ = some (.int .i64 y.e1) := (cell_of_row W3 p4 5 _ _ _ HB6.out).trans (by rw [HCY.out]; rfl)
              have x6 : W3.cell? ⟨p4, 6, none⟩ = some (.int .i64 y.e2) := (cell_of_row W3 p4 6 _ _ _ HB6.out).trans (by rw [HCY.out]; rfl)
              have x7 : W3.cell? ⟨p4, 7, none⟩ = some (.int .i64 y.e3) := (cell_of_row W3 p4 7 _ _ _ HB6.out).trans (by rw [HCY.out]; rfl)
              have x8 : W3.cell? ⟨p4, 8, none⟩ = some (.int .i64 y.e4) := (cell_of_row W3 p4 8 _ _ _ HB6.out).trans (by rw [HCY.out]; rfl)
              have x9 : W3.cell? ⟨p4, 9, none⟩ = some (.int .i64 y.e5) := (cell_of_row W3 p4 9 _ _ _ HB6.out).trans (by rw [HCY.out]; rfl)
              obtain ⟨u0, e0⟩ := Option.isSome_iff_exists.1 (HT2.out 0 (by omega)).1
              have f0 := (HT2.out 0 (by omega)).2
              obtain ⟨u1, e1⟩ := Option.isSome_iff_exists.1 (HT2.out 1 (by omega)).1
              have f1 := (HT2.out 1 (by omega)).2
              obtain ⟨u2, e2⟩ := Option.isSome_iff_exists.1 (HT2.out 2 (by omega)).1
              have f2 := (HT2.out 2 (by omega)).2
              obtain ⟨u3, e3⟩ := Option.isSome_iff_exists.1 (HT2.out 3 (by omega)).1
              have f3 := (HT2.out 3 (by omega)).2
              obtain ⟨u4, e4⟩ := Option.isSome_iff_exists.1 (HT2.out 4 (by omega)).1
              have f4 := (HT2.out 4 (by omega)).2
              obtain ⟨u5, e5⟩ := Option.isSome_iff_exists.1 (HT2.out 5 (by omega)).1
              have f5 := (HT2.out 5 (by omega)).2
              obtain ⟨u6, e6⟩ := Option.isSome_iff_exists.1 (HT2.out 6 (by omega)).1
              have f6 := (HT2.out 6 (by omega)).2
              obtain ⟨u7, e7⟩ := Option.isSome_iff_exists.1 (HT2.out 7 (by omega)).1
              have f7 := (HT2.out 7 (by omega)).2
              obtain ⟨u8, e8⟩ := Option.isSome_iff_exists.1 (HT2.out 8 (by omega)).1
              have f8 := (HT2.out 8 (by omega)).2
              obtain ⟨u9, e9⟩ := Option.isSome_iff_exists.1 (HT2.out 9 (by omega)).1
              have f9 := (HT2.out 9 (by omega)).2
              simp only [Nat.add_zero] at e0 f0
              have HE1 : Hid (W3.setCells g (off + j * 10) (roomC y) = ((((((((((W3.setCell ⟨g, off + j * 10, none⟩ (.int .i64 y.id)).setCell ⟨g, off + j * 10 + 1, none⟩ (.string y.name)).setCell ⟨g, off + j * 10 + 2, none⟩ (.int .i64 y.kind)).setCell ⟨g, off + j * 10 + 3, none⟩ (.int .i64 y.price)).setCell ⟨g, off + j * 10 + 4, none⟩ (.int .i64 y.e0)).setCell ⟨g, off + j * 10 + 5, none⟩ (.int .i64 y.e1)).setCell ⟨g, off + j * 10 + 6, none⟩ (.int .i64 y.e2)).setCell ⟨g, off + j * 10 + 7, none⟩ (.int .i64 y.e3)).setCell ⟨g, off + j * 10 + 8, none⟩ (.int .i64 y.e4)).setCell ⟨g, off + j * 10 + 9, none⟩ (.int .i64 y.e5))) := Lib.hid (by rw [HCY.out]; rfl)
              have KS : Keep (fun b => b = g) W3 (((((((((((W3.setCell ⟨g, off + j * 10, none⟩ (.int .i64 y.id)).setCell ⟨g, off + j * 10 + 1, none⟩ (.string y.name)).setCell ⟨g, off + j * 10 + 2, none⟩ (.int .i64 y.kind)).setCell ⟨g, off + j * 10 + 3, none⟩ (.int .i64 y.price)).setCell ⟨g, off + j * 10 + 4, none⟩ (.int .i64 y.e0)).setCell ⟨g, off + j * 10 + 5, none⟩ (.int .i64 y.e1)).setCell ⟨g, off + j * 10 + 6, none⟩ (.int .i64 y.e2)).setCell ⟨g, off + j * 10 + 7, none⟩ (.int .i64 y.e3)).setCell ⟨g, off + j * 10 + 8, none⟩ (.int .i64 y.e4)).setCell ⟨g, off + j * 10 + 9, none⟩ (.int .i64 y.e5))).drew := by rw [← HE1.out]; exact (keep_cells _ _).drew
              have HS1 : Hid ((fun w' : World => w'.cell? ⟨d, 0, none⟩ = some (.slice (some ⟨g, off, none⟩) L.length vc) ∧ w'.cell? ⟨p4, 0, none⟩ = some (.int .i64 y.id) ∧ w'.cell? ⟨p4, 1, none⟩ = some (.string y.name) ∧ w'.cell? ⟨p4, 2, none⟩ = some (.int .i64 y.kind) ∧ w'.cell? ⟨p4, 3, none⟩ = some (.int .i64 y.price) ∧ w'.cell? ⟨p4, 4, none⟩ = some (.int .i64 y.e0) ∧ w'.cell? ⟨p4, 5, none⟩ = some (.int .i64 y.e1) ∧ w'.cell? ⟨p4, 6, none⟩ = some (.int .i64 y.e2) ∧ w'.cell? ⟨p4, 7, none⟩ = some (.int .i64 y.e3) ∧ w'.cell? ⟨p4, 8, none⟩ = some (.int .i64 y.e4) ∧ w'.cell? ⟨p4, 9, none⟩ = some (.int .i64 y.e5)) (((((((((((W3.setCell ⟨g, off + j * 10, none⟩ (.int .i64 y.id)).setCell ⟨g, off + j * 10 + 1, none⟩ (.string y.name)).setCell ⟨g, off + j * 10 + 2, none⟩ (.int .i64 y.kind)).setCell ⟨g, off + j * 10 + 3, none⟩ (.int .i64 y.price)).setCell ⟨g, off + j * 10 + 4, none⟩ (.int .i64 y.e0)).setCell ⟨g, off + j * 10 + 5, none⟩ (.int .i64 y.e1)).setCell ⟨g, off + j * 10 + 6, none⟩ (.int .i64 y.e2)).setCell ⟨g, off + j * 10 + 7, none⟩ (.int .i64 y.e3)).setCell ⟨g, off + j * 10 + 8, none⟩ (.int .i64 y.e4)).setCell ⟨g, off + j * 10 + 9, none⟩ (.int .i64 y.e5))).drew) := Lib.hid ⟨(KS.cell (World.block_lt_of_cell? _ _ d3) hdg _).trans d3, (KS.cell (World.block_lt_of_cell? _ _ x0) h4g _).trans x0, (KS.cell (World.block_lt_of_cell? _ _ x1) h4g _).trans x1, (KS.cell (World.block_lt_of_cell? _ _ x2) h4g _).trans x2, (KS.cell (World.block_lt_of_cell? _ _ x3) h4g _).trans x3, (KS.cell (World.block_lt_of_cell? _ _ x4) h4g _).trans x4, (KS.cell (World.block_lt_of_cell? _ _ x5) h4g _).trans x5, (KS.cell (World.block_lt_of_cell? _ _ x6) h4g _).trans x6, (KS.cell (World.block_lt_of_cell? _ _ x7) h4g _).trans x7, (KS.cell (World.block_lt_of_cell? _ _ x8) h4g _).trans x8, (KS.cell (World.block_lt_of_cell? _ _ x9) h4g _).trans x9⟩
              have HKS := Lib.hid KS
              clear KS
              go_region_held3 (fun w' => w'.cell? ⟨d, 0, none⟩ = some (.slice (some ⟨g, off, none⟩) L.length vc) ∧ w'.cell? ⟨p4, 0, none⟩ = some (.int .i64 y.id) ∧ w'.cell? ⟨p4, 1, none⟩ = some (.string y.name) ∧ w'.cell? ⟨p4, 2, none⟩ = some (.int .i64 y.kind) ∧ w'.cell? ⟨p4, 3, none⟩ = some (.int .i64 y.price) ∧ w'.cell? ⟨p4, 4, none⟩ = some (.int .i64 y.e0) ∧ w'.cell? ⟨p4, 5, none⟩ = some (.int .i64 y.e1) ∧ w'.cell? ⟨p4, 6, none⟩ = some (.int .i64 y.e2) ∧ w'.cell? ⟨p4, 7, none⟩ = some (.int .i64 y.e3) ∧ w'.cell? ⟨p4, 8, none⟩ = some (.int .i64 y.e4) ∧ w'.cell? ⟨p4, 9, none⟩ = some (.int .i64 y.e5)) (first | (go_keep; done) | exact HS1.out) (first | fail)
              clear HS1 x0 e0 f0 x1 e1 f1 x2 e2 f2 x3 e3 f3 x4 e4 f4 x5 e5 f5 x6 e6 f6 x7 e7 f7 x8 e8 f8 x9 e9 f9
              clear u0 u1 u2 u3 u4 u5 u6 u7 u8 u9
              generalize hW3 : (((((((((((W3.setCell ⟨g, off + j * 10, none⟩ (.int .i64 y.id)).setCell ⟨g, off + j * 10 + 1, none⟩ (.string y.name)).setCell ⟨g, off + j * 10 + 2, none⟩ (.int .i64 y.kind)).setCell ⟨g, off + j * 10 + 3, none⟩ (.int .i64 y.price)).setCell ⟨g, off + j * 10 + 4, none⟩ (.int .i64 y.e0)).setCell ⟨g, off + j * 10 + 5, none⟩ (.int .i64 y.e1)).setCell ⟨g, off + j * 10 + 6, none⟩ (.int .i64 y.e2)).setCell ⟨g, off + j * 10 + 7, none⟩ (.int .i64 y.e3)).setCell ⟨g, off + j * 10 + 8, none⟩ (.int .i64 y.e4)).setCell ⟨g, off + j * 10 + 9, none⟩ (.int .i64 y.e5))).drew = W4
              have hW4 : W4 = (W3.setCells g (off + j * 10) (roomC y)).drew := by rw [HE1.out]; exact hW3.symm
              have HKW4 : Hid (Keep (fun b => b = g) W3 W4) := Lib.hid (by rw [← hW3]; exact HKS.out)
              have HRC : Hid (Rec W4 53 roomC 10 (.slice (some ⟨g, off, none⟩) L.length vc) (A' ++ x :: (y :: B2 ++ C2))) := Lib.hid (by
                rw [hW4]
                have h1 := HRB.out.put roomC_len y
                rw [show (A' ++ [x]).length = j by rw [List.length_append, ← HMM.out, HJ.out]; rfl] at h1
                have h2 : A' ++ x :: (y :: B2 ++ C2) = (A' ++ [x]) ++ y :: (B2 ++ C2) := by simp
                rw [h2]
                exact Row.drew h1)
              clear hW3 hW4 HE1 HKS HT2 d3
              go_wp2
              go_roundw
              case rel =>
                obtain ⟨t1, t2⟩ := so_step (key := RoomM.id) HS2.out HB2.out hxy
                have T : SoI RoomM.id 53 roomC 10 (.slice (some ⟨g, off, none⟩) L.length vc) L i s1 (.int .i64 ((j : Int) - 1)) W4 := ⟨A', x, y :: B2, C2, by congr 1; have h1 := HMM.out; have h2 := HJ.out; omega, by have := HAB.out; have := HAL.out; have := HJ.out; have := HMM.out; simp at this ⊢; omega, so_swap HPM2.out, t1, t2, HRC.out,
                  (((HKQ.out.trans K1.out (fun _ h => h.elim)).trans HK2.out (fun _ h => h.elim)).trans HKW3.out (fun b hb => .inl (by rw [hb]; rfl))).trans HKW4.out (fun b hb => .inl (by rw [hb]; rfl))⟩
                first | exact T | ((repeat apply Exists.intro); first | exact T | exact ⟨T, rfl⟩)
              case measure => simp [intOf]; omega
          · have dxy : decide (x.id < y.id) = false := by simpa using hxy
            go_wp2
            go_quiet (fail)
            go_wp2
            go_roundw
            case rel => have T := HEX.out (wr.drewN nq) (keep_drewN wr nq) (Or.inr ⟨A', y, rfl, by show y.id ≤ x.id; omega⟩); first | exact T | ((repeat apply Exists.intro); first | exact T | exact ⟨T, rfl⟩)
            case measure => simp [intOf]; omega
    · have hd1 : decide (i < L.length) = false := by rw [decide_eq_false_iff_not]; exact hlt
      go_wp2
      obtain rfl : C = [] := List.eq_nil_of_length_eq_zero (by omega)
      have hso : SortOf RoomM.id L A := ⟨by simpa using HPM.out, HS.out⟩
      have hrA : Rec wr 53 roomC 10 v1 A := by rw [HVE.out]; simpa using HR.out
      have hkA : Keep (fun b => v1.ownBlock = some b) s1 wr := by rw [HVE.out]; exact HK.out
      exact HQ.out _ _ A ⟨rfl, rfl, rfl⟩ hso hrA hkA

set_option maxHeartbeats 16000000 in
theorem sortPart2 {s2 : World} {d : Nat} {v1 v2 v3 v4 v5 v6 : Value} {L : List (ProtoM)} (hb : s2.heap[d]? = some (.cells #[v1, v2, v3, v4, v5, v6] 50 (0, 0))) (h1 : Rec s2 78 protoC 5 v2 L) (hnl : L.length ≤ 1000000) {a : Act} (ha : Fr d a) {Q : Exit → Act → World → Prop}
    (hQ : ∀ a' w' M, Fr d a' → SortOf ProtoM.id L M → Rec w' 78 protoC 5 v2 M → Keep (fun b => v2.ownBlock = some b) s2 w' → Q .normal a' w') : (seqPart 1 (Tryz.f23.body.getD .skip)).wp Tryz.prog Q a s2 := by
  obtain ⟨u, rfl⟩ := ha.arr
  have HQ := Lib.hid hQ
  have HBK := Lib.hid hb

  clear ha hQ hb
  simp only [Tryz.f23, Option.getD_some, seqPart]
  obtain ⟨va, vc, hve, hc1, hc2⟩ := h1.slice
  rw [hve] at h1
  unfold maxLen at hc2
  have HVE := Lib.hid hve
  have p1 : s2.cell? ⟨d, 1, none⟩ = some (.slice va L.length vc) := by rw [← hve]; exact (cell_of_row s2 d 1 _ _ _ HBK.out).trans rfl
  have HND : Hid (∀ b, (Value.slice va L.length vc).ownBlock = some b → d ≠ b) := Lib.hid (fun b hb e => by subst e; obtain ⟨cs, f, e⟩ := h1.type hb; exact ty_ne HBK.out e (by decide) rfl)
  have HP : Hid (∀ w9, Keep (fun b => (Value.slice va L.length vc).ownBlock = some b) s2 w9 → w9.cell? ⟨d, 1, none⟩ = some (.slice va L.length vc)) := Lib.hid (fun w9 k => (k.cell (World.block_lt_of_cell? _ _ p1) (fun hf => HND.out d hf rfl) _).trans p1)
  have H1 := Lib.hid h1
  clear h1 hve p1
  go_wp2
  go_loopw [6, 7, 8, 9] (fun iv _ _ _ wr => SoO ProtoM.id 78 protoC 5 (.slice va L.length vc) L s2 iv wr) (fun iv _ _ _ _ => L.length - (intOf iv).toNat)
  case atStart => exact ⟨[], L, rfl, List.Perm.refl _, List.Pairwise.nil, H1.out, Keep.refl _ _⟩
  case round =>
    obtain ⟨A, C, rfl, hp, hs, hr, hk⟩ := hrel.ex
    have HPM := Lib.hid hp; have HS := Lib.hid hs; have HR := Lib.hid hr; have HK := Lib.hid hk
    have q0 := HP.out wr hk
    have hlen := hp.length_eq
    rw [List.length_append] at hlen
    clear hp hs hr hk hrel
    obtain ⟨i, hi⟩ : ∃ i, i = A.length := ⟨_, rfl⟩
    rw [← hi] at hlen ⊢
    by_cases hlt : i < L.length
    · have hd1 : decide (i < L.length) = true := by simpa using hlt
      obtain ⟨x0, C0, rfl⟩ : ∃ x C', C = x :: C' := by
        cases C with
        | nil => simp at hlen; omega
        | cons x C' => exact ⟨x, C', rfl⟩
      obtain ⟨g, off, rfl, _⟩ := HR.out.some (i := i) (x := x0) (by rw [hi]; exact mid_get)
      have HI := Lib.hid hi
      clear hi
      go_wp2
      go_loopw [7, 8, 9] (fun kv _ _ wq => SoI ProtoM.id 78 protoC 5 (.slice (some ⟨g, off, none⟩) L.length vc) L i s2 kv wq) (fun kv _ _ _ => (intOf kv).toNat)
      case atStart => exact ⟨A, x0, [], C0, by rw [HI.out], by rw [HI.out]; rfl, HPM.out, by simpa using HS.out, by simp, HR.out, HK.out⟩
      case round =>
        obtain ⟨A2, x, B2, C2, rfl, hab, hp, hs, hB, hr, hk⟩ := hrel.ex
        have HPM2 := Lib.hid hp; have HS2 := Lib.hid hs; have HB2 := Lib.hid hB; have HR2 := Lib.hid hr; have HKQ := Lib.hid hk; have HAB := Lib.hid hab
        have r0 := HP.out wr hk
        clear hp hs hB hr hk hrel hab q0
        have HEX : Hid (∀ (w9 : World) (_ : Keep (fun _ => False) wr w9) (_ : A2 = [] ∨ ∃ A' y, A2 = A' ++ [y] ∧ ProtoM.id y ≤ ProtoM.id x), SoO ProtoM.id 78 protoC 5 (.slice (some ⟨g, off, none⟩) L.length vc) L s2 (.int .i64 ((i + 1 : Nat) : Int)) w9) := Lib.hid (fun w9 k9 hA =>
          ⟨A2 ++ x :: B2, C2, by rw [List.length_append, List.length_cons, ← HAB.out]; rfl, by simpa using HPM2.out, so_done HS2.out HB2.out hA, by simpa using HR2.out.keep k9 (fun _ _ h => h), HKQ.out.trans k9 (fun _ h => h.elim)⟩)
        rcases List.eq_nil_or_concat A2 with hA | ⟨A', y, hA⟩
        · subst hA
          go_wp2
          go_quiet (fail)
          go_wp2
          go_roundw
          case rel => have T := HEX.out (wr.drewN nq) (keep_drewN wr nq) (Or.inl (by simp)); first | exact T | ((repeat apply Exists.intro); first | exact T | exact ⟨T, rfl⟩)
          case measure => simp [intOf]; omega
        · have hA' : A2 = A' ++ [y] := by simpa using hA
          subst hA'
          obtain ⟨m, hm⟩ : ∃ m, m = A'.length := ⟨_, rfl⟩
          have HMM := Lib.hid hm
          obtain ⟨j, hj⟩ : ∃ j, j = m + 1 := ⟨_, rfl⟩
          have hal : (A' ++ [y]).length = j := by rw [hj, hm]; simp
          have hml : j < L.length := by have h0 := HPM2.out.length_eq; rw [List.length_append, hal, List.length_cons] at h0; omega
          have HALL : Hid ((A' ++ [y]) ++ x :: (B2 ++ C2) = A' ++ y :: (x :: (B2 ++ C2))) := Lib.hid (by simp)
          have HCX : Hid (protoC x = [.int .i64 x.id, .string x.name, .int .i64 x.slot, .int .i64 x.power, .int .i64 x.price]) := Lib.hid (rfl)
          have HCY : Hid (protoC y = [.int .i64 y.id, .string y.name, .int .i64 y.slot, .int .i64 y.power, .int .i64 y.price]) := Lib.hid (rfl)
          have hry := HR2.out.range protoC_len m y (by rw [HALL.out, hm]; exact mid_get)
          have hrx := HR2.out.range protoC_len j x (by rw [← hal]; exact mid_get)
          have cy : wr.cell? ⟨g, off + m * 5, none⟩ = some (.int .i64 y.id) := hry 0 _ rfl
          have cx : wr.cell? ⟨g, off + j * 5, none⟩ = some (.int .i64 x.id) := hrx 0 _ rfl
          have HRY := Lib.hid hry; have HRX := Lib.hid hrx
          rw [hal]
          have hw1 : IntKind.i64.wrap ((j : Int) - 1) = (j : Int) - 1 := IntWalk.i64_in _ (by omega)
          have hw2 : (0 : Int) ≤ (j : Int) - 1 := by omega
          have hw3 : (1 : Int) ≤ (j : Int) := by omega
          have hw4 : (j : Int) - 1 < (L.length : Int) := by omega
          have hw5 : ((j : Int) - 1).toNat = m := by omega
          have hd0 : decide (0 < j) = true := by rw [decide_eq_true_eq]; omega
          have HJ := Lib.hid hj
          have HAL := Lib.hid hal
          clear hm hal hA hry hrx hj
          by_cases hxy : x.id < y.id
          · have dxy : decide (x.id < y.id) = true := by simpa using hxy
            go_wp2
            go_quiet (fail)
            go_upto_region 15 with (fail)
            have K1 := Lib.hid (keep_drewN (F := fun _ => False) wr nq)
            generalize wr.drewN nq = W1 at K1 ⊢
            have HRY1 : W1.rangeAt g (off + m * 5) (protoC y) := range_keep HRY.out K1.out (HR2.out.row.lt rfl) (fun h => h)
            have HRX1 : W1.rangeAt g (off + j * 5) (protoC x) := range_keep HRX.out K1.out (HR2.out.row.lt rfl) (fun h => h)
            have c1 : W1.cell? ⟨d, 1, none⟩ = some (.slice (some ⟨g, off, none⟩) L.length vc) := (K1.out.cell (World.block_lt_of_cell? _ _ r0) (fun h => h) _).trans r0
            have qy0 : W1.cell? ⟨g, off + m * 5, none⟩ = some (.int .i64 y.id) := HRY1 0 _ (by rw [HCY.out]; rfl)
            have qy1 : W1.cell? ⟨g, off + m * 5 + 1, none⟩ = some (.string y.name) := HRY1 1 _ (by rw [HCY.out]; rfl)
            have qy2 : W1.cell? ⟨g, off + m * 5 + 2, none⟩ = some (.int .i64 y.slot) := HRY1 2 _ (by rw [HCY.out]; rfl)
            have qy3 : W1.cell? ⟨g, off + m * 5 + 3, none⟩ = some (.int .i64 y.power) := HRY1 3 _ (by rw [HCY.out]; rfl)
            have qy4 : W1.cell? ⟨g, off + m * 5 + 4, none⟩ = some (.int .i64 y.price) := HRY1 4 _ (by rw [HCY.out]; rfl)
            have qx0 : W1.cell? ⟨g, off + j * 5, none⟩ = some (.int .i64 x.id) := HRX1 0 _ (by rw [HCX.out]; rfl)
            have qx1 : W1.cell? ⟨g, off + j * 5 + 1, none⟩ = some (.string x.name) := HRX1 1 _ (by rw [HCX.out]; rfl)
            have qx2 : W1.cell? ⟨g, off + j * 5 + 2, none⟩ = some (.int .i64 x.slot) := HRX1 2 _ (by rw [HCX.out]; rfl)
            have qx3 : W1.cell? ⟨g, off + j * 5 + 3, none⟩ = some (.int .i64 x.power) := HRX1 3 _ (by rw [HCX.out]; rfl)
            have qx4 : W1.cell? ⟨g, off + j * 5 + 4, none⟩ = some (.int .i64 x.price) := HRX1 4 _ (by rw [HCX.out]; rfl)
            have hz : ∀ w : World, (zeroValue 78).run Tryz.prog w = .ok (.agg #[.int .i64 0, .string ⟨#[]⟩, .int .i64 0, .int .i64 0, .int .i64 0]) w := fun w => by kernel_rfl
            clear r0 cy cx HRY1 HRX1
            have hgl : g < W1.heap.size := Nat.lt_of_lt_of_le (HR2.out.row.lt rfl) K1.out.size
            have hdl : d < W1.heap.size := World.block_lt_of_cell? _ _ c1
            go_cut [8, 9] from 100 to 153 (fun pa pb wx => SwR (protoC x) (protoC y) 78 g W1 pa pb wx)
            case first =>
              go_region_held3 (fun w' => w'.cell? ⟨d, 1, none⟩ = some (.slice (some ⟨g, off, none⟩) L.length vc) ∧ w'.cell? ⟨g, off + m * 5, none⟩ = some (.int .i64 y.id) ∧ w'.cell? ⟨g, off + m * 5 + 1, none⟩ = some (.string y.name) ∧ w'.cell? ⟨g, off + m * 5 + 2, none⟩ = some (.int .i64 y.slot) ∧ w'.cell? ⟨g, off + m * 5 + 3, none⟩ = some (.int .i64 y.power) ∧ w'.cell? ⟨g, off + m * 5 + 4, none⟩ = some (.int .i64 y.price) ∧ w'.cell? ⟨g, off + j * 5, none⟩ = some (.int .i64 x.id) ∧ w'.cell? ⟨g, off + j * 5 + 1, none⟩ = some (.string x.name) ∧ w'.cell? ⟨g, off + j * 5 + 2, none⟩ = some (.int .i64 x.slot) ∧ w'.cell? ⟨g, off + j * 5 + 3, none⟩ = some (.int .i64 x.power) ∧ w'.cell? ⟨g, off + j * 5 + 4, none⟩ = some (.int .i64 x.price)) (go_keep) (first | fail)
              all_goals go_wp2_with fail
              all_goals go_meet
              · exact ⟨_, _, rfl, rfl, by rw [HCY.out]; exact new_first W1 _ _, by rw [HCX.out]; exact new_second W1 _ _, (((Keep.refl _ W1).alloc _).alloc _).drew, by omega, by omega⟩
              · exact ⟨_, _, rfl, rfl, by rw [HCY.out]; exact new_second W1 _ _, by rw [HCX.out]; exact new_first W1 _ _, (((Keep.refl _ W1).alloc _).alloc _).drew, by omega, by omega⟩
            case rest =>
              obtain ⟨p4, p5, rfl, rfl, b4, b5, K2, h4g, h5g⟩ := hcut.ex
              rename World => W2
              have h4s : p4 < W2.heap.size := lt_of_block b4
              have HB4 := Lib.hid b4; have HB5 := Lib.hid b5; have HK2 := Lib.hid K2; have H4S := Lib.hid h4s
              clear b4 b5 K2 h4s hz hcut qy0 qy1 qy2 qy3 qy4 qx0 qx1 qx2 qx3 qx4
              go_wp2
              have hdg : d ≠ g := HND.out g rfl
              have HRA := Lib.hid ((HR2.out.keep K1.out (fun _ _ h => h)).keep HK2.out (fun _ _ h => h))
              have d2 : W2.cell? ⟨d, 1, none⟩ = some (.slice (some ⟨g, off, none⟩) L.length vc) := (HK2.out.cell hdl (fun h => h) _).trans c1
              clear c1
              have HT1 := Lib.hid (HRA.out.there (i := m) (by rw [HALL.out, List.length_append]; simp; have := HMM.out; omega))
              have x0 : W2.cell? ⟨p5, 0, none⟩ = some (.int .i64 x.id) := (cell_of_row W2 p5 0 _ _ _ HB5.out).trans (by rw [HCX.out]; rfl)
              have x1 : W2.cell? ⟨p5, 1, none⟩ = some (.string x.name) := (cell_of_row W2 p5 1 _ _ _ HB5.out).trans (by rw [HCX.out]; rfl)
              have x2 : W2.cell? ⟨p5, 2, none⟩ = some (.int .i64 x.slot) := (cell_of_row W2 p5 2 _ _ _ HB5.out).trans (by rw [HCX.out]; rfl)
              have x3 : W2.cell? ⟨p5, 3, none⟩ = some (.int .i64 x.power) := (cell_of_row W2 p5 3 _ _ _ HB5.out).trans (by rw [HCX.out]; rfl)
              have x4 : W2.cell? ⟨p5, 4, none⟩ = some (.int .i64 x.price) := (cell_of_row W2 p5 4 _ _ _ HB5.out).trans (by rw [HCX.out]; rfl)
              obtain ⟨u0, e0⟩ := Option.isSome_iff_exists.1 (HT1.out 0 (by omega)).1
              have f0 := (HT1.out 0 (by omega)).2
              obtain ⟨u1, e1⟩ := Option.isSome_iff_exists.1 (HT1.out 1 (by omega)).1
              have f1 := (HT1.out 1 (by omega)).2
              obtain ⟨u2, e2⟩ := Option.isSome_iff_exists.1 (HT1.out 2 (by omega)).1
              have f2 := (HT1.out 2 (by omega)).2
              obtain ⟨u3, e3⟩ := Option.isSome_iff_exists.1 (HT1.out 3 (by omega)).1
              have f3 := (HT1.out 3 (by omega)).2
              obtain ⟨u4, e4⟩ := Option.isSome_iff_exists.1 (HT1.out 4 (by omega)).1
              have f4 := (HT1.out 4 (by omega)).2
              simp only [Nat.add_zero] at e0 f0
              have HE1 : Hid (W2.setCells g (off + m * 5) (protoC x) = (((((W2.setCell ⟨g, off + m * 5, none⟩ (.int .i64 x.id)).setCell ⟨g, off + m * 5 + 1, none⟩ (.string x.name)).setCell ⟨g, off + m * 5 + 2, none⟩ (.int .i64 x.slot)).setCell ⟨g, off + m * 5 + 3, none⟩ (.int .i64 x.power)).setCell ⟨g, off + m * 5 + 4, none⟩ (.int .i64 x.price))) := Lib.hid (by rw [HCX.out]; rfl)
              have KS : Keep (fun b => b = g) W2 ((((((W2.setCell ⟨g, off + m * 5, none⟩ (.int .i64 x.id)).setCell ⟨g, off + m * 5 + 1, none⟩ (.string x.name)).setCell ⟨g, off + m * 5 + 2, none⟩ (.int .i64 x.slot)).setCell ⟨g, off + m * 5 + 3, none⟩ (.int .i64 x.power)).setCell ⟨g, off + m * 5 + 4, none⟩ (.int .i64 x.price))).drew := by rw [← HE1.out]; exact (keep_cells _ _).drew
              have HS1 : Hid ((fun w' : World => w'.cell? ⟨d, 1, none⟩ = some (.slice (some ⟨g, off, none⟩) L.length vc) ∧ w'.cell? ⟨p5, 0, none⟩ = some (.int .i64 x.id) ∧ w'.cell? ⟨p5, 1, none⟩ = some (.string x.name) ∧ w'.cell? ⟨p5, 2, none⟩ = some (.int .i64 x.slot) ∧ w'.cell? ⟨p5, 3, none⟩ = some (.int .i64 x.power) ∧ w'.cell? ⟨p5, 4, none⟩ = some (.int .i64 x.price)) ((((((W2.setCell ⟨g, off + m * 5, none⟩ (.int .i64 x.id)).setCell ⟨g, off + m * 5 + 1, none⟩ (.string x.name)).setCell ⟨g, off + m * 5 + 2, none⟩ (.int .i64 x.slot)).setCell ⟨g, off + m * 5 + 3, none⟩ (.int .i64 x.power)).setCell ⟨g, off + m * 5 + 4, none⟩ (.int .i64 x.price))).drew) := Lib.hid ⟨(KS.cell (World.block_lt_of_cell? _ _ d2) hdg _).trans d2, (KS.cell (World.block_lt_of_cell? _ _ x0) h5g _).trans x0, (KS.cell (World.block_lt_of_cell? _ _ x1) h5g _).trans x1, (KS.cell (World.block_lt_of_cell? _ _ x2) h5g _).trans x2, (KS.cell (World.block_lt_of_cell? _ _ x3) h5g _).trans x3, (KS.cell (World.block_lt_of_cell? _ _ x4) h5g _).trans x4⟩
              have HKS := Lib.hid KS
              clear KS
              go_region_held3 (fun w' => w'.cell? ⟨d, 1, none⟩ = some (.slice (some ⟨g, off, none⟩) L.length vc) ∧ w'.cell? ⟨p5, 0, none⟩ = some (.int .i64 x.id) ∧ w'.cell? ⟨p5, 1, none⟩ = some (.string x.name) ∧ w'.cell? ⟨p5, 2, none⟩ = some (.int .i64 x.slot) ∧ w'.cell? ⟨p5, 3, none⟩ = some (.int .i64 x.power) ∧ w'.cell? ⟨p5, 4, none⟩ = some (.int .i64 x.price)) (first | (go_keep; done) | exact HS1.out) (first | fail)
              clear HS1 x0 e0 f0 x1 e1 f1 x2 e2 f2 x3 e3 f3 x4 e4 f4
              clear u0 u1 u2 u3 u4
              generalize hW3 : ((((((W2.setCell ⟨g, off + m * 5, none⟩ (.int .i64 x.id)).setCell ⟨g, off + m * 5 + 1, none⟩ (.string x.name)).setCell ⟨g, off + m * 5 + 2, none⟩ (.int .i64 x.slot)).setCell ⟨g, off + m * 5 + 3, none⟩ (.int .i64 x.power)).setCell ⟨g, off + m * 5 + 4, none⟩ (.int .i64 x.price))).drew = W3
              have hW4 : W3 = (W2.setCells g (off + m * 5) (protoC x)).drew := by rw [HE1.out]; exact hW3.symm
              have HKW3 : Hid (Keep (fun b => b = g) W2 W3) := Lib.hid (by rw [← hW3]; exact HKS.out)
              have HRB : Hid (Rec W3 78 protoC 5 (.slice (some ⟨g, off, none⟩) L.length vc) ((A' ++ [x]) ++ x :: (B2 ++ C2))) := Lib.hid (by
                rw [hW4]
                have h0 := HRA.out
                rw [HALL.out] at h0
                have h1 := h0.put protoC_len x
                rw [← HMM.out] at h1
                have h2 : (A' ++ [x]) ++ x :: (B2 ++ C2) = A' ++ x :: (x :: (B2 ++ C2)) := by simp
                rw [h2]
                exact Row.drew h1)
              have d3 : W3.cell? ⟨d, 1, none⟩ = some (.slice (some ⟨g, off, none⟩) L.length vc) := (HKW3.out.cell (World.block_lt_of_cell? _ _ d2) hdg _).trans d2
              have HB6 : Hid (W3.heap[p4]? = some (.cells (protoC y).toArray 78 (0, 0))) := Lib.hid ((HKW3.out.block p4 H4S.out h4g).trans HB4.out)
              clear hW3 hW4 HE1 HKS HT1 d2 HB4 HB5
              go_wp2
              have HT2 := Lib.hid (HRB.out.there (i := j) (by rw [List.length_append, List.length_append, List.length_cons]; simp; have := HMM.out; have := HJ.out; omega))
              have x0 : W3.cell? ⟨p4, 0, none⟩ = some (.int .i64 y.id) := (cell_of_row W3 p4 0 _ _ _ HB6.out).trans (by rw [HCY.out]; rfl)
              have x1 : W3.cell? ⟨p4, 1, none⟩ = some (.string y.name) := (cell_of_row W3 p4 1 _ _ _ HB6.out).trans (by rw [HCY.out]; rfl)
              have x2 : W3.cell? ⟨p4, 2, none⟩ = some (.int .i64 y.slot) := (cell_of_row W3 p4 2 _ _ _ HB6.out).trans (by rw [HCY.out]; rfl)
              have x3 : W3.cell? ⟨p4, 3, none⟩ = some (.int .i64 y.power) := (cell_of_row W3 p4 3 _ _ _ HB6.out).trans (by rw [HCY.out]; rfl)
              have x4 : W3.cell? ⟨p4, 4, none⟩ = some (.int .i64 y.price) := (cell_of_row W3 p4 4 _ _ _ HB6.out).trans (by rw [HCY.out]; rfl)
              obtain ⟨u0, e0⟩ := Option.isSome_iff_exists.1 (HT2.out 0 (by omega)).1
              have f0 := (HT2.out 0 (by omega)).2
              obtain ⟨u1, e1⟩ := Option.isSome_iff_exists.1 (HT2.out 1 (by omega)).1
              have f1 := (HT2.out 1 (by omega)).2
              obtain ⟨u2, e2⟩ := Option.isSome_iff_exists.1 (HT2.out 2 (by omega)).1
              have f2 := (HT2.out 2 (by omega)).2
              obtain ⟨u3, e3⟩ := Option.isSome_iff_exists.1 (HT2.out 3 (by omega)).1
              have f3 := (HT2.out 3 (by omega)).2
              obtain ⟨u4, e4⟩ := Option.isSome_iff_exists.1 (HT2.out 4 (by omega)).1
              have f4 := (HT2.out 4 (by omega)).2
              simp only [Nat.add_zero] at e0 f0
              have HE1 : Hid (W3.setCells g (off + j * 5) (protoC y) = (((((W3.setCell ⟨g, off + j * 5, none⟩ (.int .i64 y.id)).setCell ⟨g, off + j * 5 + 1, none⟩ (.string y.name)).setCell ⟨g, off + j * 5 + 2, none⟩ (.int .i64 y.slot)).setCell ⟨g, off + j * 5 + 3, none⟩ (.int .i64 y.power)).setCell ⟨g, off + j * 5 + 4, none⟩ (.int .i64 y.price))) := Lib.hid (by rw [HCY.out]; rfl)
              have KS : Keep (fun b => b = g) W3 ((((((W3.setCell ⟨g, off + j * 5, none⟩ (.int .i64 y.id)).setCell ⟨g, off + j * 5 + 1, none⟩ (.string y.name)).setCell ⟨g, off + j * 5 + 2, none⟩ (.int .i64 y.slot)).setCell ⟨g, off + j * 5 + 3, none⟩ (.int .i64 y.power)).setCell ⟨g, off + j * 5 + 4, none⟩ (.int .i64 y.price))).drew := by rw [← HE1.out]; exact (keep_cells _ _).drew
              have HS1 : Hid ((fun w' : World => w'.cell? ⟨d, 1, none⟩ = some (.slice (some ⟨g, off, none⟩) L.length vc) ∧ w'.cell? ⟨p4, 0, none⟩ = some (.int .i64 y.id) ∧ w'.cell? ⟨p4, 1, none⟩ = some (.string y.name) ∧ w'.cell? ⟨p4, 2, none⟩ = some (.int .i64 y.slot) ∧ w'.cell? ⟨p4, 3, none⟩ = some (.int .i64 y.power) ∧ w'.cell? ⟨p4, 4, none⟩ = some (.int .i64 y.price)) ((((((W3.setCell ⟨g, off + j * 5, none⟩ (.int .i64 y.id)).setCell ⟨g, off + j * 5 + 1, none⟩ (.string y.name)).setCell ⟨g, off + j * 5 + 2, none⟩ (.int .i64 y.slot)).setCell ⟨g, off + j * 5 + 3, none⟩ (.int .i64 y.power)).setCell ⟨g, off + j * 5 + 4, none⟩ (.int .i64 y.price))).drew) := Lib.hid ⟨(KS.cell (World.block_lt_of_cell? _ _ d3) hdg _).trans d3, (KS.cell (World.block_lt_of_cell? _ _ x0) h4g _).trans x0, (KS.cell (World.block_lt_of_cell? _ _ x1) h4g _).trans x1, (KS.cell (World.block_lt_of_cell? _ _ x2) h4g _).trans x2, (KS.cell (World.block_lt_of_cell? _ _ x3) h4g _).trans x3, (KS.cell (World.block_lt_of_cell? _ _ x4) h4g _).trans x4⟩
              have HKS := Lib.hid KS
              clear KS
              go_region_held3 (fun w' => w'.cell? ⟨d, 1, none⟩ = some (.slice (some ⟨g, off, none⟩) L.length vc) ∧ w'.cell? ⟨p4, 0, none⟩ = some (.int .i64 y.id) ∧ w'.cell? ⟨p4, 1, none⟩ = some (.string y.name) ∧ w'.cell? ⟨p4, 2, none⟩ = some (.int .i64 y.slot) ∧ w'.cell? ⟨p4, 3, none⟩ = some (.int .i64 y.power) ∧ w'.cell? ⟨p4, 4, none⟩ = some (.int .i64 y.price)) (first | (go_keep; done) | exact HS1.out) (first | fail)
              clear HS1 x0 e0 f0 x1 e1 f1 x2 e2 f2 x3 e3 f3 x4 e4 f4
              clear u0 u1 u2 u3 u4
              generalize hW3 : ((((((W3.setCell ⟨g, off + j * 5, none⟩ (.int .i64 y.id)).setCell ⟨g, off + j * 5 + 1, none⟩ (.string y.name)).setCell ⟨g, off + j * 5 + 2, none⟩ (.int .i64 y.slot)).setCell ⟨g, off + j * 5 + 3, none⟩ (.int .i64 y.power)).setCell ⟨g, off + j * 5 + 4, none⟩ (.int .i64 y.price))).drew = W4
              have hW4 : W4 = (W3.setCells g (off + j * 5) (protoC y)).drew := by rw [HE1.out]; exact hW3.symm
              have HKW4 : Hid (Keep (fun b => b = g) W3 W4) := Lib.hid (by rw [← hW3]; exact HKS.out)
              have HRC : Hid (Rec W4 78 protoC 5 (.slice (some ⟨g, off, none⟩) L.length vc) (A' ++ x :: (y :: B2 ++ C2))) := Lib.hid (by
                rw [hW4]
                have h1 := HRB.out.put protoC_len y
                rw [show (A' ++ [x]).length = j by rw [List.length_append, ← HMM.out, HJ.out]; rfl] at h1
                have h2 : A' ++ x :: (y :: B2 ++ C2) = (A' ++ [x]) ++ y :: (B2 ++ C2) := by simp
                rw [h2]
                exact Row.drew h1)
              clear hW3 hW4 HE1 HKS HT2 d3
              go_wp2
              go_roundw
              case rel =>
                obtain ⟨t1, t2⟩ := so_step (key := ProtoM.id) HS2.out HB2.out hxy
                have T : SoI ProtoM.id 78 protoC 5 (.slice (some ⟨g, off, none⟩) L.length vc) L i s2 (.int .i64 ((j : Int) - 1)) W4 := ⟨A', x, y :: B2, C2, by congr 1; have h1 := HMM.out; have h2 := HJ.out; omega, by have := HAB.out; have := HAL.out; have := HJ.out; have := HMM.out; simp at this ⊢; omega, so_swap HPM2.out, t1, t2, HRC.out,
                  (((HKQ.out.trans K1.out (fun _ h => h.elim)).trans HK2.out (fun _ h => h.elim)).trans HKW3.out (fun b hb => .inl (by rw [hb]; rfl))).trans HKW4.out (fun b hb => .inl (by rw [hb]; rfl))⟩
                first | exact T | ((repeat apply Exists.intro); first | exact T | exact ⟨T, rfl⟩)
              case measure => simp [intOf]; omega
          · have dxy : decide (x.id < y.id) = false := by simpa using hxy
            go_wp2
            go_quiet (fail)
            go_wp2
            go_roundw
            case rel => have T := HEX.out (wr.drewN nq) (keep_drewN wr nq) (Or.inr ⟨A', y, rfl, by show y.id ≤ x.id; omega⟩); first | exact T | ((repeat apply Exists.intro); first | exact T | exact ⟨T, rfl⟩)
            case measure => simp [intOf]; omega
    · have hd1 : decide (i < L.length) = false := by rw [decide_eq_false_iff_not]; exact hlt
      go_wp2
      obtain rfl : C = [] := List.eq_nil_of_length_eq_zero (by omega)
      have hso : SortOf ProtoM.id L A := ⟨by simpa using HPM.out, HS.out⟩
      have hrA : Rec wr 78 protoC 5 v2 A := by rw [HVE.out]; simpa using HR.out
      have hkA : Keep (fun b => v2.ownBlock = some b) s2 wr := by rw [HVE.out]; exact HK.out
      exact HQ.out _ _ A ⟨rfl, rfl, rfl⟩ hso hrA hkA

set_option maxHeartbeats 16000000 in
theorem sortPart3 {s3 : World} {d : Nat} {v1 v2 v3 v4 v5 v6 : Value} {L : List (MobPM)} (hb : s3.heap[d]? = some (.cells #[v1, v2, v3, v4, v5, v6] 50 (0, 0))) (h1 : Rec s3 80 mobpC 7 v3 L) (hnl : L.length ≤ 1000000) {a : Act} (ha : Fr d a) {Q : Exit → Act → World → Prop}
    (hQ : ∀ a' w' M, Fr d a' → SortOf MobPM.id L M → Rec w' 80 mobpC 7 v3 M → Keep (fun b => v3.ownBlock = some b) s3 w' → Q .normal a' w') : (seqPart 2 (Tryz.f23.body.getD .skip)).wp Tryz.prog Q a s3 := by
  obtain ⟨u, rfl⟩ := ha.arr
  have HQ := Lib.hid hQ
  have HBK := Lib.hid hb

  clear ha hQ hb
  simp only [Tryz.f23, Option.getD_some, seqPart]
  obtain ⟨va, vc, hve, hc1, hc2⟩ := h1.slice
  rw [hve] at h1
  unfold maxLen at hc2
  have HVE := Lib.hid hve
  have p1 : s3.cell? ⟨d, 2, none⟩ = some (.slice va L.length vc) := by rw [← hve]; exact (cell_of_row s3 d 2 _ _ _ HBK.out).trans rfl
  have HND : Hid (∀ b, (Value.slice va L.length vc).ownBlock = some b → d ≠ b) := Lib.hid (fun b hb e => by subst e; obtain ⟨cs, f, e⟩ := h1.type hb; exact ty_ne HBK.out e (by decide) rfl)
  have HP : Hid (∀ w9, Keep (fun b => (Value.slice va L.length vc).ownBlock = some b) s3 w9 → w9.cell? ⟨d, 2, none⟩ = some (.slice va L.length vc)) := Lib.hid (fun w9 k => (k.cell (World.block_lt_of_cell? _ _ p1) (fun hf => HND.out d hf rfl) _).trans p1)
  have H1 := Lib.hid h1
  clear h1 hve p1
  go_wp2
  go_loopw [10, 11, 12, 13] (fun iv _ _ _ wr => SoO MobPM.id 80 mobpC 7 (.slice va L.length vc) L s3 iv wr) (fun iv _ _ _ _ => L.length - (intOf iv).toNat)
  case atStart => exact ⟨[], L, rfl, List.Perm.refl _, List.Pairwise.nil, H1.out, Keep.refl _ _⟩
  case round =>
    obtain ⟨A, C, rfl, hp, hs, hr, hk⟩ := hrel.ex
    have HPM := Lib.hid hp; have HS := Lib.hid hs; have HR := Lib.hid hr; have HK := Lib.hid hk
    have q0 := HP.out wr hk
    have hlen := hp.length_eq
    rw [List.length_append] at hlen
    clear hp hs hr hk hrel
    obtain ⟨i, hi⟩ : ∃ i, i = A.length := ⟨_, rfl⟩
    rw [← hi] at hlen ⊢
    by_cases hlt : i < L.length
    · have hd1 : decide (i < L.length) = true := by simpa using hlt
      obtain ⟨x0, C0, rfl⟩ : ∃ x C', C = x :: C' := by
        cases C with
        | nil => simp at hlen; omega
        | cons x C' => exact ⟨x, C', rfl⟩
      obtain ⟨g, off, rfl, _⟩ := HR.out.some (i := i) (x := x0) (by rw [hi]; exact mid_get)
      have HI := Lib.hid hi
      clear hi
      go_wp2
      go_loopw [11, 12, 13] (fun kv _ _ wq => SoI MobPM.id 80 mobpC 7 (.slice (some ⟨g, off, none⟩) L.length vc) L i s3 kv wq) (fun kv _ _ _ => (intOf kv).toNat)
      case atStart => exact ⟨A, x0, [], C0, by rw [HI.out], by rw [HI.out]; rfl, HPM.out, by simpa using HS.out, by simp, HR.out, HK.out⟩
      case round =>
        obtain ⟨A2, x, B2, C2, rfl, hab, hp, hs, hB, hr, hk⟩ := hrel.ex
        have HPM2 := Lib.hid hp; have HS2 := Lib.hid hs; have HB2 := Lib.hid hB; have HR2 := Lib.hid hr; have HKQ := Lib.hid hk; have HAB := Lib.hid hab
        have r0 := HP.out wr hk
        clear hp hs hB hr hk hrel hab q0
        have HEX : Hid (∀ (w9 : World) (_ : Keep (fun _ => False) wr w9) (_ : A2 = [] ∨ ∃ A' y, A2 = A' ++ [y] ∧ MobPM.id y ≤ MobPM.id x), SoO MobPM.id 80 mobpC 7 (.slice (some ⟨g, off, none⟩) L.length vc) L s3 (.int .i64 ((i + 1 : Nat) : Int)) w9) := Lib.hid (fun w9 k9 hA =>
          ⟨A2 ++ x :: B2, C2, by rw [List.length_append, List.length_cons, ← HAB.out]; rfl, by simpa using HPM2.out, so_done HS2.out HB2.out hA, by simpa using HR2.out.keep k9 (fun _ _ h => h), HKQ.out.trans k9 (fun _ h => h.elim)⟩)
        rcases List.eq_nil_or_concat A2 with hA | ⟨A', y, hA⟩
        · subst hA
          go_wp2
          go_quiet (fail)
          go_wp2
          go_roundw
          case rel => have T := HEX.out (wr.drewN nq) (keep_drewN wr nq) (Or.inl (by simp)); first | exact T | ((repeat apply Exists.intro); first | exact T | exact ⟨T, rfl⟩)
          case measure => simp [intOf]; omega
        · have hA' : A2 = A' ++ [y] := by simpa using hA
          subst hA'
          obtain ⟨m, hm⟩ : ∃ m, m = A'.length := ⟨_, rfl⟩
          have HMM := Lib.hid hm
          obtain ⟨j, hj⟩ : ∃ j, j = m + 1 := ⟨_, rfl⟩
          have hal : (A' ++ [y]).length = j := by rw [hj, hm]; simp
          have hml : j < L.length := by have h0 := HPM2.out.length_eq; rw [List.length_append, hal, List.length_cons] at h0; omega
          have HALL : Hid ((A' ++ [y]) ++ x :: (B2 ++ C2) = A' ++ y :: (x :: (B2 ++ C2))) := Lib.hid (by simp)
          have HCX : Hid (mobpC x = [.int .i64 x.id, .string x.name, .int .i64 x.home, .int .i64 x.hp, .int .i64 x.power, .int .i64 x.xp, .int .i64 x.gold]) := Lib.hid (rfl)
          have HCY : Hid (mobpC y = [.int .i64 y.id, .string y.name, .int .i64 y.home, .int .i64 y.hp, .int .i64 y.power, .int .i64 y.xp, .int .i64 y.gold]) := Lib.hid (rfl)
          have hry := HR2.out.range mobpC_len m y (by rw [HALL.out, hm]; exact mid_get)
          have hrx := HR2.out.range mobpC_len j x (by rw [← hal]; exact mid_get)
          have cy : wr.cell? ⟨g, off + m * 7, none⟩ = some (.int .i64 y.id) := hry 0 _ rfl
          have cx : wr.cell? ⟨g, off + j * 7, none⟩ = some (.int .i64 x.id) := hrx 0 _ rfl
          have HRY := Lib.hid hry; have HRX := Lib.hid hrx
          rw [hal]
          have hw1 : IntKind.i64.wrap ((j : Int) - 1) = (j : Int) - 1 := IntWalk.i64_in _ (by omega)
          have hw2 : (0 : Int) ≤ (j : Int) - 1 := by omega
          have hw3 : (1 : Int) ≤ (j : Int) := by omega
          have hw4 : (j : Int) - 1 < (L.length : Int) := by omega
          have hw5 : ((j : Int) - 1).toNat = m := by omega
          have hd0 : decide (0 < j) = true := by rw [decide_eq_true_eq]; omega
          have HJ := Lib.hid hj
          have HAL := Lib.hid hal
          clear hm hal hA hry hrx hj
          by_cases hxy : x.id < y.id
          · have dxy : decide (x.id < y.id) = true := by simpa using hxy
            go_wp2
            go_quiet (fail)
            go_upto_region 24 with (fail)
            have K1 := Lib.hid (keep_drewN (F := fun _ => False) wr nq)
            generalize wr.drewN nq = W1 at K1 ⊢
            have HRY1 : W1.rangeAt g (off + m * 7) (mobpC y) := range_keep HRY.out K1.out (HR2.out.row.lt rfl) (fun h => h)
            have HRX1 : W1.rangeAt g (off + j * 7) (mobpC x) := range_keep HRX.out K1.out (HR2.out.row.lt rfl) (fun h => h)
            have c1 : W1.cell? ⟨d, 2, none⟩ = some (.slice (some ⟨g, off, none⟩) L.length vc) := (K1.out.cell (World.block_lt_of_cell? _ _ r0) (fun h => h) _).trans r0
            have qy0 : W1.cell? ⟨g, off + m * 7, none⟩ = some (.int .i64 y.id) := HRY1 0 _ (by rw [HCY.out]; rfl)
            have qy1 : W1.cell? ⟨g, off + m * 7 + 1, none⟩ = some (.string y.name) := HRY1 1 _ (by rw [HCY.out]; rfl)
            have qy2 : W1.cell? ⟨g, off + m * 7 + 2, none⟩ = some (.int .i64 y.home) := HRY1 2 _ (by rw [HCY.out]; rfl)
            have qy3 : W1.cell? ⟨g, off + m * 7 + 3, none⟩ = some (.int .i64 y.hp) := HRY1 3 _ (by rw [HCY.out]; rfl)
            have qy4 : W1.cell? ⟨g, off + m * 7 + 4, none⟩ = some (.int .i64 y.power) := HRY1 4 _ (by rw [HCY.out]; rfl)
            have qy5 : W1.cell? ⟨g, off + m * 7 + 5, none⟩ = some (.int .i64 y.xp) := HRY1 5 _ (by rw [HCY.out]; rfl)
            have qy6 : W1.cell? ⟨g, off + m * 7 + 6, none⟩ = some (.int .i64 y.gold) := HRY1 6 _ (by rw [HCY.out]; rfl)
            have qx0 : W1.cell? ⟨g, off + j * 7, none⟩ = some (.int .i64 x.id) := HRX1 0 _ (by rw [HCX.out]; rfl)
            have qx1 : W1.cell? ⟨g, off + j * 7 + 1, none⟩ = some (.string x.name) := HRX1 1 _ (by rw [HCX.out]; rfl)
            have qx2 : W1.cell? ⟨g, off + j * 7 + 2, none⟩ = some (.int .i64 x.home) := HRX1 2 _ (by rw [HCX.out]; rfl)
            have qx3 : W1.cell? ⟨g, off + j * 7 + 3, none⟩ = some (.int .i64 x.hp) := HRX1 3 _ (by rw [HCX.out]; rfl)
            have qx4 : W1.cell? ⟨g, off + j * 7 + 4, none⟩ = some (.int .i64 x.power) := HRX1 4 _ (by rw [HCX.out]; rfl)
            have qx5 : W1.cell? ⟨g, off + j * 7 + 5, none⟩ = some (.int .i64 x.xp) := HRX1 5 _ (by rw [HCX.out]; rfl)
            have qx6 : W1.cell? ⟨g, off + j * 7 + 6, none⟩ = some (.int .i64 x.gold) := HRX1 6 _ (by rw [HCX.out]; rfl)
            have hz : ∀ w : World, (zeroValue 80).run Tryz.prog w = .ok (.agg #[.int .i64 0, .string ⟨#[]⟩, .int .i64 0, .int .i64 0, .int .i64 0, .int .i64 0, .int .i64 0]) w := fun w => by kernel_rfl
            clear r0 cy cx HRY1 HRX1
            have hgl : g < W1.heap.size := Nat.lt_of_lt_of_le (HR2.out.row.lt rfl) K1.out.size
            have hdl : d < W1.heap.size := World.block_lt_of_cell? _ _ c1
            go_cut [12, 13] from 164 to 217 (fun pa pb wx => SwR (mobpC x) (mobpC y) 80 g W1 pa pb wx)
            case first =>
              go_region_held3 (fun w' => w'.cell? ⟨d, 2, none⟩ = some (.slice (some ⟨g, off, none⟩) L.length vc) ∧ w'.cell? ⟨g, off + m * 7, none⟩ = some (.int .i64 y.id) ∧ w'.cell? ⟨g, off + m * 7 + 1, none⟩ = some (.string y.name) ∧ w'.cell? ⟨g, off + m * 7 + 2, none⟩ = some (.int .i64 y.home) ∧ w'.cell? ⟨g, off + m * 7 + 3, none⟩ = some (.int .i64 y.hp) ∧ w'.cell? ⟨g, off + m * 7 + 4, none⟩ = some (.int .i64 y.power) ∧ w'.cell? ⟨g, off + m * 7 + 5, none⟩ = some (.int .i64 y.xp) ∧ w'.cell? ⟨g, off + m * 7 + 6, none⟩ = some (.int .i64 y.gold) ∧ w'.cell? ⟨g, off + j * 7, none⟩ = some (.int .i64 x.id) ∧ w'.cell? ⟨g, off + j * 7 + 1, none⟩ = some (.string x.name) ∧ w'.cell? ⟨g, off + j * 7 + 2, none⟩ = some (.int .i64 x.home) ∧ w'.cell? ⟨g, off + j * 7 + 3, none⟩ = some (.int .i64 x.hp) ∧ w'.cell? ⟨g, off + j * 7 + 4, none⟩ = some (.int .i64 x.power) ∧ w'.cell? ⟨g, off + j * 7 + 5, none⟩ = some (.int .i64 x.xp) ∧ w'.cell? ⟨g, off + j * 7 + 6, none⟩ = some (.int .i64 x.gold)) (go_keep) (first | fail)
              all_goals go_wp2_with fail
              all_goals go_meet
              · exact ⟨_, _, rfl, rfl, by rw [HCY.out]; exact new_first W1 _ _, by rw [HCX.out]; exact new_second W1 _ _, (((Keep.refl _ W1).alloc _).alloc _).drew, by omega, by omega⟩
              · exact ⟨_, _, rfl, rfl, by rw [HCY.out]; exact new_second W1 _ _, by rw [HCX.out]; exact new_first W1 _ _, (((Keep.refl _ W1).alloc _).alloc _).drew, by omega, by omega⟩
            case rest =>
              obtain ⟨p4, p5, rfl, rfl, b4, b5, K2, h4g, h5g⟩ := hcut.ex
              rename World => W2
              have h4s : p4 < W2.heap.size := lt_of_block b4
              have HB4 := Lib.hid b4; have HB5 := Lib.hid b5; have HK2 := Lib.hid K2; have H4S := Lib.hid h4s
              clear b4 b5 K2 h4s hz hcut qy0 qy1 qy2 qy3 qy4 qy5 qy6 qx0 qx1 qx2 qx3 qx4 qx5 qx6
              go_wp2
              have hdg : d ≠ g := HND.out g rfl
              have HRA := Lib.hid ((HR2.out.keep K1.out (fun _ _ h => h)).keep HK2.out (fun _ _ h => h))
              have d2 : W2.cell? ⟨d, 2, none⟩ = some (.slice (some ⟨g, off, none⟩) L.length vc) := (HK2.out.cell hdl (fun h => h) _).trans c1
              clear c1
              have HT1 := Lib.hid (HRA.out.there (i := m) (by rw [HALL.out, List.length_append]; simp; have := HMM.out; omega))
              have x0 : W2.cell? ⟨p5, 0, none⟩ = some (.int .i64 x.id) := (cell_of_row W2 p5 0 _ _ _ HB5.out).trans (by rw [HCX.out]; rfl)
              have x1 : W2.cell? ⟨p5, 1, none⟩ = some (.string x.name) := (cell_of_row W2 p5 1 _ _ _ HB5.out).trans (by rw [HCX.out]; rfl)
              have x2 : W2.cell? ⟨p5, 2, none⟩ = some (.int .i64 x.home) := (cell_of_row W2 p5 2 _ _ _ HB5.out).trans (by rw [HCX.out]; rfl)
              have x3 : W2.cell? ⟨p5, 3, none⟩ = some (.int .i64 x.hp) := (cell_of_row W2 p5 3 _ _ _ HB5.out).trans (by rw [HCX.out]; rfl)
              have x4 : W2.cell? ⟨p5, 4, none⟩ = some (.int .i64 x.power) := (cell_of_row W2 p5 4 _ _ _ HB5.out).trans (by rw [HCX.out]; rfl)
              have x5 : W2.cell? ⟨p5, 5, none⟩ = some (.int .i64 x.xp) := (cell_of_row W2 p5 5 _ _ _ HB5.out).trans (by rw [HCX.out]; rfl)
              have x6 : W2.cell? ⟨p5, 6, none⟩ = some (.int .i64 x.gold) := (cell_of_row W2 p5 6 _ _ _ HB5.out).trans (by rw [HCX.out]; rfl)
              obtain ⟨u0, e0⟩ := Option.isSome_iff_exists.1 (HT1.out 0 (by omega)).1
              have f0 := (HT1.out 0 (by omega)).2
              obtain ⟨u1, e1⟩ := Option.isSome_iff_exists.1 (HT1.out 1 (by omega)).1
              have f1 := (HT1.out 1 (by omega)).2
              obtain ⟨u2, e2⟩ := Option.isSome_iff_exists.1 (HT1.out 2 (by omega)).1
              have f2 := (HT1.out 2 (by omega)).2
              obtain ⟨u3, e3⟩ := Option.isSome_iff_exists.1 (HT1.out 3 (by omega)).1
              have f3 := (HT1.out 3 (by omega)).2
              obtain ⟨u4, e4⟩ := Option.isSome_iff_exists.1 (HT1.out 4 (by omega)).1
              have f4 := (HT1.out 4 (by omega)).2
              obtain ⟨u5, e5⟩ := Option.isSome_iff_exists.1 (HT1.out 5 (by omega)).1
              have f5 := (HT1.out 5 (by omega)).2
              obtain ⟨u6, e6⟩ := Option.isSome_iff_exists.1 (HT1.out 6 (by omega)).1
              have f6 := (HT1.out 6 (by omega)).2
              simp only [Nat.add_zero] at e0 f0
              have HE1 : Hid (W2.setCells g (off + m * 7) (mobpC x) = (((((((W2.setCell ⟨g, off + m * 7, none⟩ (.int .i64 x.id)).setCell ⟨g, off + m * 7 + 1, none⟩ (.string x.name)).setCell ⟨g, off + m * 7 + 2, none⟩ (.int .i64 x.home)).setCell ⟨g, off + m * 7 + 3, none⟩ (.int .i64 x.hp)).setCell ⟨g, off + m * 7 + 4, none⟩ (.int .i64 x.power)).setCell ⟨g, off + m * 7 + 5, none⟩ (.int .i64 x.xp)).setCell ⟨g, off + m * 7 + 6, none⟩ (.int .i64 x.gold))) := Lib.hid (by rw [HCX.out]; rfl)
              have KS : Keep (fun b => b = g) W2 ((((((((W2.setCell ⟨g, off + m * 7, none⟩ (.int .i64 x.id)).setCell ⟨g, off + m * 7 + 1, none⟩ (.string x.name)).setCell ⟨g, off + m * 7 + 2, none⟩ (.int .i64 x.home)).setCell ⟨g, off + m * 7 + 3, none⟩ (.int .i64 x.hp)).setCell ⟨g, off + m * 7 + 4, none⟩ (.int .i64 x.power)).setCell ⟨g, off + m * 7 + 5, none⟩ (.int .i64 x.xp)).setCell ⟨g, off + m * 7 + 6, none⟩ (.int .i64 x.gold))).drew := by rw [← HE1.out]; exact (keep_cells _ _).drew
              have HS1 : Hid ((fun w' : World => w'.cell? ⟨d, 2, none⟩ = some (.slice (some ⟨g, off, none⟩) L.length vc) ∧ w'.cell? ⟨p5, 0, none⟩ = some (.int .i64 x.id) ∧ w'.cell? ⟨p5, 1, none⟩ = some (.string x.name) ∧ w'.cell? ⟨p5, 2, none⟩ = some (.int .i64 x.home) ∧ w'.cell? ⟨p5, 3, none⟩ = some (.int .i64 x.hp) ∧ w'.cell? ⟨p5, 4, none⟩ = some (.int .i64 x.power) ∧ w'.cell? ⟨p5, 5, none⟩ = some (.int .i64 x.xp) ∧ w'.cell? ⟨p5, 6, none⟩ = some (.int .i64 x.gold)) ((((((((W2.setCell ⟨g, off + m * 7, none⟩ (.int .i64 x.id)).setCell ⟨g, off + m * 7 + 1, none⟩ (.string x.name)).setCell ⟨g, off + m * 7 + 2, none⟩ (.int .i64 x.home)).setCell ⟨g, off + m * 7 + 3, none⟩ (.int .i64 x.hp)).setCell ⟨g, off + m * 7 + 4, none⟩ (.int .i64 x.power)).setCell ⟨g, off + m * 7 + 5, none⟩ (.int .i64 x.xp)).setCell ⟨g, off + m * 7 + 6, none⟩ (.int .i64 x.gold))).drew) := Lib.hid ⟨(KS.cell (World.block_lt_of_cell? _ _ d2) hdg _).trans d2, (KS.cell (World.block_lt_of_cell? _ _ x0) h5g _).trans x0, (KS.cell (World.block_lt_of_cell? _ _ x1) h5g _).trans x1, (KS.cell (World.block_lt_of_cell? _ _ x2) h5g _).trans x2, (KS.cell (World.block_lt_of_cell? _ _ x3) h5g _).trans x3, (KS.cell (World.block_lt_of_cell? _ _ x4) h5g _).trans x4, (KS.cell (World.block_lt_of_cell? _ _ x5) h5g _).trans x5, (KS.cell (World.block_lt_of_cell? _ _ x6) h5g _).trans x6⟩
              have HKS := Lib.hid KS
              clear KS
              go_region_held3 (fun w' => w'.cell? ⟨d, 2, none⟩ = some (.slice (some ⟨g, off, none⟩) L.length vc) ∧ w'.cell? ⟨p5, 0, none⟩ = some (.int .i64 x.id) ∧ w'.cell? ⟨p5, 1, none⟩ = some (.string x.name) ∧ w'.cell? ⟨p5, 2, none⟩ = some (.int .i64 x.home) ∧ w'.cell? ⟨p5, 3, none⟩ = some (.int .i64 x.hp) ∧ w'.cell? ⟨p5, 4, none⟩ = some (.int .i64 x.power) ∧ w'.cell? ⟨p5, 5, none⟩ = some (.int .i64 x.xp) ∧ w'.cell? ⟨p5, 6, none⟩ = some (.int .i64 x.gold)) (first | (go_keep; done) | exact HS1.out) (first | fail)
              clear HS1 x0 e0 f0 x1 e1 f1 x2 e2 f2 x3 e3 f3 x4 e4 f4 x5 e5 f5 x6 e6 f6
              clear u0 u1 u2 u3 u4 u5 u6
              generalize hW3 : ((((((((W2.setCell ⟨g, off + m * 7, none⟩ (.int .i64 x.id)).setCell ⟨g, off + m * 7 + 1, none⟩ (.string x.name)).setCell ⟨g, off + m * 7 + 2, none⟩ (.int .i64 x.home)).setCell ⟨g, off + m * 7 + 3, none⟩ (.int .i64 x.hp)).setCell ⟨g, off + m * 7 + 4, none⟩ (.int .i64 x.power)).setCell ⟨g, off + m * 7 + 5, none⟩ (.int .i64 x.xp)).setCell ⟨g, off + m * 7 + 6, none⟩ (.int .i64 x.gold))).drew = W3
              have hW4 : W3 = (W2.setCells g (off + m * 7) (mobpC x)).drew := by rw [HE1.out]; exact hW3.symm
              have HKW3 : Hid (Keep (fun b => b = g) W2 W3) := Lib.hid (by rw [← hW3]; exact HKS.out)
              have HRB : Hid (Rec W3 80 mobpC 7 (.slice (some ⟨g, off, none⟩) L.length vc) ((A' ++ [x]) ++ x :: (B2 ++ C2))) := Lib.hid (by
                rw [hW4]
                have h0 := HRA.out
                rw [HALL.out] at h0
                have h1 := h0.put mobpC_len x
                rw [← HMM.out] at h1
                have h2 : (A' ++ [x]) ++ x :: (B2 ++ C2) = A' ++ x :: (x :: (B2 ++ C2)) := by simp
                rw [h2]
                exact Row.drew h1)
              have d3 : W3.cell? ⟨d, 2, none⟩ = some (.slice (some ⟨g, off, none⟩) L.length vc) := (HKW3.out.cell (World.block_lt_of_cell? _ _ d2) hdg _).trans d2
              have HB6 : Hid (W3.heap[p4]? = some (.cells (mobpC y).toArray 80 (0, 0))) := Lib.hid ((HKW3.out.block p4 H4S.out h4g).trans HB4.out)
              clear hW3 hW4 HE1 HKS HT1 d2 HB4 HB5
              go_wp2
              have HT2 := Lib.hid (HRB.out.there (i := j) (by rw [List.length_append, List.length_append, List.length_cons]; simp; have := HMM.out; have := HJ.out; omega))
              have x0 : W3.cell? ⟨p4, 0, none⟩ = some (.int .i64 y.id) := (cell_of_row W3 p4 0 _ _ _ HB6.out).trans (by rw [HCY.out]; rfl)
              have x1 : W3.cell? ⟨p4, 1, none⟩ = some (.string y.name) := (cell_of_row W3 p4 1 _ _ _ HB6.out).trans (by rw [HCY.out]; rfl)
              have x2 : W3.cell? ⟨p4, 2, none⟩ = some (.int .i64 y.home) := (cell_of_row W3 p4 2 _ _ _ HB6.out).trans (by rw [HCY.out]; rfl)
              have x3 : W3.cell? ⟨p4, 3, none⟩ = some (.int .i64 y.hp) := (cell_of_row W3 p4 3 _ _ _ HB6.out).trans (by rw [HCY.out]; rfl)
              have x4 : W3.cell? ⟨p4, 4, none⟩ = some (.int .i64 y.power) := (cell_of_row W3 p4 4 _ _ _ HB6.out).trans (by rw [HCY.out]; rfl)
              have x5 : W3.cell? ⟨p4, 5, none⟩ = some (.int .i64 y.xp) := (cell_of_row W3 p4 5 _ _ _ HB6.out).trans (by rw [HCY.out]; rfl)
              have x6 : W3.cell? ⟨p4, 6, none⟩ = some (.int .i64 y.gold) := (cell_of_row W3 p4 6 _ _ _ HB6.out).trans (by rw [HCY.out]; rfl)
              obtain ⟨u0, e0⟩ := Option.isSome_iff_exists.1 (HT2.out 0 (by omega)).1
              have f0 := (HT2.out 0 (by omega)).2
              obtain ⟨u1, e1⟩ := Option.isSome_iff_exists.1 (HT2.out 1 (by omega)).1
              have f1 := (HT2.out 1 (by omega)).2
              obtain ⟨u2, e2⟩ := Option.isSome_iff_exists.1 (HT2.out 2 (by omega)).1
              have f2 := (HT2.out 2 (by omega)).2
              obtain ⟨u3, e3⟩ := Option.isSome_iff_exists.1 (HT2.out 3 (by omega)).1
              have f3 := (HT2.out 3 (by omega)).2
              obtain ⟨u4, e4⟩ := Option.isSome_iff_exists.1 (HT2.out 4 (by omega)).1
              have f4 := (HT2.out 4 (by omega)).2
              obtain ⟨u5, e5⟩ := Option.isSome_iff_exists.1 (HT2.out 5 (by omega)).1
              have f5 := (HT2.out 5 (by omega)).2
              obtain ⟨u6, e6⟩ := Option.isSome_iff_exists.1 (HT2.out 6 (by omega)).1
              have f6 := (HT2.out 6 (by omega)).2
              simp only [Nat.add_zero] at e0 f0
              have HE1 : Hid (W3.setCells g (off + j * 7) (mobpC y) = (((((((W3.setCell ⟨g, off + j * 7, none⟩ (.int .i64 y.id)).setCell ⟨g, off + j * 7 + 1, none⟩ (.string y.name)).setCell ⟨g, off + j * 7 + 2, none⟩ (.int .i64 y.home)).setCell ⟨g, off + j * 7 + 3, none⟩ (.int .i64 y.hp)).setCell ⟨g, off + j * 7 + 4, none⟩ (.int .i64 y.power)).setCell ⟨g, off + j * 7 + 5, none⟩ (.int .i64 y.xp)).setCell ⟨g, off + j * 7 + 6, none⟩ (.int .i64 y.gold))) := Lib.hid (by rw [HCY.out]; rfl)
              have KS : Keep (fun b => b = g) W3 ((((((((W3.setCell ⟨g, off + j * 7, none⟩ (.int .i64 y.id)).setCell ⟨g, off + j * 7 + 1, none⟩ (.string y.name)).setCell ⟨g, off + j * 7 + 2, none⟩ (.int .i64 y.home)).setCell ⟨g, off + j * 7 + 3, none⟩ (.int .i64 y.hp)).setCell ⟨g, off + j * 7 + 4, none⟩ (.int .i64 y.power)).setCell ⟨g, off + j * 7 + 5, none⟩ (.int .i64 y.xp)).setCell ⟨g, off + j * 7 + 6, none⟩ (.int .i64 y.gold))).drew := by rw [← HE1.out]; exact (keep_cells _ _).drew
              have HS1 : Hid ((fun w' : World => w'.cell? ⟨d, 2, none⟩ = some (.slice (some ⟨g, off, none⟩) L.length vc) ∧ w'.cell? ⟨p4, 0, none⟩ = some (.int .i64 y.id) ∧ w'.cell? ⟨p4, 1, none⟩ = some (.string y.name) ∧ w'.cell? ⟨p4, 2, none⟩ = some (.int .i64 y.home) ∧ w'.cell? ⟨p4, 3, none⟩ = some (.int .i64 y.hp) ∧ w'.cell? ⟨p4, 4, none⟩ = some (.int .i64 y.power) ∧ w'.cell? ⟨p4, 5, none⟩ = some (.int .i64 y.xp) ∧ w'.cell? ⟨p4, 6, none⟩ = some (.int .i64 y.gold)) ((((((((W3.setCell ⟨g, off + j * 7, none⟩ (.int .i64 y.id)).setCell ⟨g, off + j * 7 + 1, none⟩ (.string y.name)).setCell ⟨g, off + j * 7 + 2, none⟩ (.int .i64 y.home)).setCell ⟨g, off + j * 7 + 3, none⟩ (.int .i64 y.hp)).setCell ⟨g, off + j * 7 + 4, none⟩ (.int .i64 y.power)).setCell ⟨g, off + j * 7 + 5, none⟩ (.int .i64 y.xp)).setCell ⟨g, off + j * 7 + 6, none⟩ (.int .i64 y.gold))).drew) := Lib.hid ⟨(KS.cell (World.block_lt_of_cell? _ _ d3) hdg _).trans d3, (KS.cell (World.block_lt_of_cell? _ _ x0) h4g _).trans x0, (KS.cell (World.block_lt_of_cell? _ _ x1) h4g _).trans x1, (KS.cell (World.block_lt_of_cell? _ _ x2) h4g _).trans x2, (KS.cell (World.block_lt_of_cell? _ _ x3) h4g _).trans x3, (KS.cell (World.block_lt_of_cell? _ _ x4) h4g _).trans x4, (KS.cell (World.block_lt_of_cell? _ _ x5) h4g _).trans x5, (KS.cell (World.block_lt_of_cell? _ _ x6) h4g _).trans x6⟩
              have HKS := Lib.hid KS
              clear KS
              go_region_held3 (fun w' => w'.cell? ⟨d, 2, none⟩ = some (.slice (some ⟨g, off, none⟩) L.length vc) ∧ w'.cell? ⟨p4, 0, none⟩ = some (.int .i64 y.id) ∧ w'.cell? ⟨p4, 1, none⟩ = some (.string y.name) ∧ w'.cell? ⟨p4, 2, none⟩ = some (.int .i64 y.home) ∧ w'.cell? ⟨p4, 3, none⟩ = some (.int .i64 y.hp) ∧ w'.cell? ⟨p4, 4, none⟩ = some (.int .i64 y.power) ∧ w'.cell? ⟨p4, 5, none⟩ = some (.int .i64 y.xp) ∧ w'.cell? ⟨p4, 6, none⟩ = some (.int .i64 y.gold)) (first | (go_keep; done) | exact HS1.out) (first | fail)
              clear HS1 x0 e0 f0 x1 e1 f1 x2 e2 f2 x3 e3 f3 x4 e4 f4 x5 e5 f5 x6 e6 f6
              clear u0 u1 u2 u3 u4 u5 u6
              generalize hW3 : ((((((((W3.setCell ⟨g, off + j * 7, none⟩ (.int .i64 y.id)).setCell ⟨g, off + j * 7 + 1, none⟩ (.string y.name)).setCell ⟨g, off + j * 7 + 2, none⟩ (.int .i64 y.home)).setCell ⟨g, off + j * 7 + 3, none⟩ (.int .i64 y.hp)).setCell ⟨g, off + j * 7 + 4, none⟩ (.int .i64 y.power)).setCell ⟨g, off + j * 7 + 5, none⟩ (.int .i64 y.xp)).setCell ⟨g, off + j * 7 + 6, none⟩ (.int .i64 y.gold))).drew = W4
              have hW4 : W4 = (W3.setCells g (off + j * 7) (mobpC y)).drew := by rw [HE1.out]; exact hW3.symm
              have HKW4 : Hid (Keep (fun b => b = g) W3 W4) := Lib.hid (by rw [← hW3]; exact HKS.out)
              have HRC : Hid (Rec W4 80 mobpC 7 (.slice (some ⟨g, off, none⟩) L.length vc) (A' ++ x :: (y :: B2 ++ C2))) := Lib.hid (by
                rw [hW4]
                have h1 := HRB.out.put mobpC_len y
                rw [show (A' ++ [x]).length = j by rw [List.length_append, ← HMM.out, HJ.out]; rfl] at h1
                have h2 : A' ++ x :: (y :: B2 ++ C2) = (A' ++ [x]) ++ y :: (B2 ++ C2) := by simp
                rw [h2]
                exact Row.drew h1)
              clear hW3 hW4 HE1 HKS HT2 d3
              go_wp2
              go_roundw
              case rel =>
                obtain ⟨t1, t2⟩ := so_step (key := MobPM.id) HS2.out HB2.out hxy
                have T : SoI MobPM.id 80 mobpC 7 (.slice (some ⟨g, off, none⟩) L.length vc) L i s3 (.int .i64 ((j : Int) - 1)) W4 := ⟨A', x, y :: B2, C2, by congr 1; have h1 := HMM.out; have h2 := HJ.out; omega, by have := HAB.out; have := HAL.out; have := HJ.out; have := HMM.out; simp at this ⊢; omega, so_swap HPM2.out, t1, t2, HRC.out,
                  (((HKQ.out.trans K1.out (fun _ h => h.elim)).trans HK2.out (fun _ h => h.elim)).trans HKW3.out (fun b hb => .inl (by rw [hb]; rfl))).trans HKW4.out (fun b hb => .inl (by rw [hb]; rfl))⟩
                first | exact T | ((repeat apply Exists.intro); first | exact T | exact ⟨T, rfl⟩)
              case measure => simp [intOf]; omega
          · have dxy : decide (x.id < y.id) = false := by simpa using hxy
            go_wp2
            go_quiet (fail)
            go_wp2
            go_roundw
            case rel => have T := HEX.out (wr.drewN nq) (keep_drewN wr nq) (Or.inr ⟨A', y, rfl, by show y.id ≤ x.id; omega⟩); first | exact T | ((repeat apply Exists.intro); first | exact T | exact ⟨T, rfl⟩)
            case measure => simp [intOf]; omega
    · have hd1 : decide (i < L.length) = false := by rw [decide_eq_false_iff_not]; exact hlt
      go_wp2
      obtain rfl : C = [] := List.eq_nil_of_length_eq_zero (by omega)
      have hso : SortOf MobPM.id L A := ⟨by simpa using HPM.out, HS.out⟩
      have hrA : Rec wr 80 mobpC 7 v3 A := by rw [HVE.out]; simpa using HR.out
      have hkA : Keep (fun b => v3.ownBlock = some b) s3 wr := by rw [HVE.out]; exact HK.out
      exact HQ.out _ _ A ⟨rfl, rfl, rfl⟩ hso hrA hkA

set_option maxHeartbeats 16000000 in
theorem sortPart4 {s4 : World} {d : Nat} {v1 v2 v3 v4 v5 v6 : Value} {L : List (RecM × Value)} (hb : s4.heap[d]? = some (.cells #[v1, v2, v3, v4, v5, v6] 50 (0, 0))) (h1 : Rec s4 83 recC 2 v4 L) (hnl : L.length ≤ 1000000) (hsl : ∀ p ∈ L, ∃ a n c, p.2 = Value.slice a n c) {a : Act} (ha : Fr d a) {Q : Exit → Act → World → Prop}
    (hQ : ∀ a' w' M, Fr d a' → SortOf (fun p : RecM × Value => RecM.out p.1) L M → Rec w' 83 recC 2 v4 M → Keep (fun b => v4.ownBlock = some b) s4 w' → Q .normal a' w') : (seqPart 3 (Tryz.f23.body.getD .skip)).wp Tryz.prog Q a s4 := by
  obtain ⟨u, rfl⟩ := ha.arr
  have HQ := Lib.hid hQ
  have HBK := Lib.hid hb
  have HSL := Lib.hid hsl
  clear ha hQ hb hsl
  simp only [Tryz.f23, Option.getD_some, seqPart]
  obtain ⟨va, vc, hve, hc1, hc2⟩ := h1.slice
  rw [hve] at h1
  unfold maxLen at hc2
  have HVE := Lib.hid hve
  have p1 : s4.cell? ⟨d, 3, none⟩ = some (.slice va L.length vc) := by rw [← hve]; exact (cell_of_row s4 d 3 _ _ _ HBK.out).trans rfl
  have HND : Hid (∀ b, (Value.slice va L.length vc).ownBlock = some b → d ≠ b) := Lib.hid (fun b hb e => by subst e; obtain ⟨cs, f, e⟩ := h1.type hb; exact ty_ne HBK.out e (by decide) rfl)
  have HP : Hid (∀ w9, Keep (fun b => (Value.slice va L.length vc).ownBlock = some b) s4 w9 → w9.cell? ⟨d, 3, none⟩ = some (.slice va L.length vc)) := Lib.hid (fun w9 k => (k.cell (World.block_lt_of_cell? _ _ p1) (fun hf => HND.out d hf rfl) _).trans p1)
  have H1 := Lib.hid h1
  clear h1 hve p1
  go_wp2
  go_loopw [14, 15, 16, 17] (fun iv _ _ _ wr => SoO (fun p : RecM × Value => RecM.out p.1) 83 recC 2 (.slice va L.length vc) L s4 iv wr) (fun iv _ _ _ _ => L.length - (intOf iv).toNat)
  case atStart => exact ⟨[], L, rfl, List.Perm.refl _, List.Pairwise.nil, H1.out, Keep.refl _ _⟩
  case round =>
    obtain ⟨A, C, rfl, hp, hs, hr, hk⟩ := hrel.ex
    have HPM := Lib.hid hp; have HS := Lib.hid hs; have HR := Lib.hid hr; have HK := Lib.hid hk
    have q0 := HP.out wr hk
    have hlen := hp.length_eq
    rw [List.length_append] at hlen
    clear hp hs hr hk hrel
    obtain ⟨i, hi⟩ : ∃ i, i = A.length := ⟨_, rfl⟩
    rw [← hi] at hlen ⊢
    by_cases hlt : i < L.length
    · have hd1 : decide (i < L.length) = true := by simpa using hlt
      obtain ⟨x0, C0, rfl⟩ : ∃ x C', C = x :: C' := by
        cases C with
        | nil => simp at hlen; omega
        | cons x C' => exact ⟨x, C', rfl⟩
      obtain ⟨g, off, rfl, _⟩ := HR.out.some (i := i) (x := x0) (by rw [hi]; exact mid_get)
      have HI := Lib.hid hi
      clear hi
      go_wp2
      go_loopw [15, 16, 17] (fun kv _ _ wq => SoI (fun p : RecM × Value => RecM.out p.1) 83 recC 2 (.slice (some ⟨g, off, none⟩) L.length vc) L i s4 kv wq) (fun kv _ _ _ => (intOf kv).toNat)
      case atStart => exact ⟨A, x0, [], C0, by rw [HI.out], by rw [HI.out]; rfl, HPM.out, by simpa using HS.out, by simp, HR.out, HK.out⟩
      case round =>
        obtain ⟨A2, x, B2, C2, rfl, hab, hp, hs, hB, hr, hk⟩ := hrel.ex
        have HPM2 := Lib.hid hp; have HS2 := Lib.hid hs; have HB2 := Lib.hid hB; have HR2 := Lib.hid hr; have HKQ := Lib.hid hk; have HAB := Lib.hid hab
        have r0 := HP.out wr hk
        clear hp hs hB hr hk hrel hab q0
        have HEX : Hid (∀ (w9 : World) (_ : Keep (fun _ => False) wr w9) (_ : A2 = [] ∨ ∃ A' y, A2 = A' ++ [y] ∧ (fun p : RecM × Value => RecM.out p.1) y ≤ (fun p : RecM × Value => RecM.out p.1) x), SoO (fun p : RecM × Value => RecM.out p.1) 83 recC 2 (.slice (some ⟨g, off, none⟩) L.length vc) L s4 (.int .i64 ((i + 1 : Nat) : Int)) w9) := Lib.hid (fun w9 k9 hA =>
          ⟨A2 ++ x :: B2, C2, by rw [List.length_append, List.length_cons, ← HAB.out]; rfl, by simpa using HPM2.out, so_done HS2.out HB2.out hA, by simpa using HR2.out.keep k9 (fun _ _ h => h), HKQ.out.trans k9 (fun _ h => h.elim)⟩)
        rcases List.eq_nil_or_concat A2 with hA | ⟨A', y, hA⟩
        · subst hA
          go_wp2
          go_quiet (fail)
          go_wp2
          go_roundw
          case rel => have T := HEX.out (wr.drewN nq) (keep_drewN wr nq) (Or.inl (by simp)); first | exact T | ((repeat apply Exists.intro); first | exact T | exact ⟨T, rfl⟩)
          case measure => simp [intOf]; omega
        · have hA' : A2 = A' ++ [y] := by simpa using hA
          subst hA'
          obtain ⟨m, hm⟩ : ∃ m, m = A'.length := ⟨_, rfl⟩
          have HMM := Lib.hid hm
          obtain ⟨j, hj⟩ : ∃ j, j = m + 1 := ⟨_, rfl⟩
          have hal : (A' ++ [y]).length = j := by rw [hj, hm]; simp
          have hml : j < L.length := by have h0 := HPM2.out.length_eq; rw [List.length_append, hal, List.length_cons] at h0; omega
          have HALL : Hid ((A' ++ [y]) ++ x :: (B2 ++ C2) = A' ++ y :: (x :: (B2 ++ C2))) := Lib.hid (by simp)
          obtain ⟨xa, xn, xc, hx2⟩ := HSL.out x (HPM2.out.mem_iff.1 (by simp))
          obtain ⟨ya, yn, yc, hy2⟩ := HSL.out y (HPM2.out.mem_iff.1 (by simp))
          have HCX : Hid (recC x = [.int .i64 x.1.out, .slice xa xn xc]) := Lib.hid (by unfold recC; rw [hx2])
          have HCY : Hid (recC y = [.int .i64 y.1.out, .slice ya yn yc]) := Lib.hid (by unfold recC; rw [hy2])
          clear hx2 hy2
          have hry := HR2.out.range recC_len m y (by rw [HALL.out, hm]; exact mid_get)
          have hrx := HR2.out.range recC_len j x (by rw [← hal]; exact mid_get)
          have cy : wr.cell? ⟨g, off + m * 2, none⟩ = some (.int .i64 y.1.out) := hry 0 _ rfl
          have cx : wr.cell? ⟨g, off + j * 2, none⟩ = some (.int .i64 x.1.out) := hrx 0 _ rfl
          have HRY := Lib.hid hry; have HRX := Lib.hid hrx
          rw [hal]
          have hw1 : IntKind.i64.wrap ((j : Int) - 1) = (j : Int) - 1 := IntWalk.i64_in _ (by omega)
          have hw2 : (0 : Int) ≤ (j : Int) - 1 := by omega
          have hw3 : (1 : Int) ≤ (j : Int) := by omega
          have hw4 : (j : Int) - 1 < (L.length : Int) := by omega
          have hw5 : ((j : Int) - 1).toNat = m := by omega
          have hd0 : decide (0 < j) = true := by rw [decide_eq_true_eq]; omega
          have HJ := Lib.hid hj
          have HAL := Lib.hid hal
          clear hm hal hA hry hrx hj
          by_cases hxy : x.1.out < y.1.out
          · have dxy : decide (x.1.out < y.1.out) = true := by simpa using hxy
            go_wp2
            go_quiet (fail)
            go_upto_region 33 with (fail)
            have K1 := Lib.hid (keep_drewN (F := fun _ => False) wr nq)
            generalize wr.drewN nq = W1 at K1 ⊢
            have HRY1 : W1.rangeAt g (off + m * 2) (recC y) := range_keep HRY.out K1.out (HR2.out.row.lt rfl) (fun h => h)
            have HRX1 : W1.rangeAt g (off + j * 2) (recC x) := range_keep HRX.out K1.out (HR2.out.row.lt rfl) (fun h => h)
            have c1 : W1.cell? ⟨d, 3, none⟩ = some (.slice (some ⟨g, off, none⟩) L.length vc) := (K1.out.cell (World.block_lt_of_cell? _ _ r0) (fun h => h) _).trans r0
            have qy0 : W1.cell? ⟨g, off + m * 2, none⟩ = some (.int .i64 y.1.out) := HRY1 0 _ (by rw [HCY.out]; rfl)
            have qy1 : W1.cell? ⟨g, off + m * 2 + 1, none⟩ = some (.slice ya yn yc) := HRY1 1 _ (by rw [HCY.out]; rfl)
            have qx0 : W1.cell? ⟨g, off + j * 2, none⟩ = some (.int .i64 x.1.out) := HRX1 0 _ (by rw [HCX.out]; rfl)
            have qx1 : W1.cell? ⟨g, off + j * 2 + 1, none⟩ = some (.slice xa xn xc) := HRX1 1 _ (by rw [HCX.out]; rfl)
            have hz : ∀ w : World, (zeroValue 83).run Tryz.prog w = .ok (.agg #[.int .i64 0, .slice none 0 0]) w := fun w => by kernel_rfl
            clear r0 cy cx HRY1 HRX1
            have hgl : g < W1.heap.size := Nat.lt_of_lt_of_le (HR2.out.row.lt rfl) K1.out.size
            have hdl : d < W1.heap.size := World.block_lt_of_cell? _ _ c1
            go_cut [16, 17] from 228 to 281 (fun pa pb wx => SwR (recC x) (recC y) 83 g W1 pa pb wx)
            case first =>
              go_region_held3 (fun w' => w'.cell? ⟨d, 3, none⟩ = some (.slice (some ⟨g, off, none⟩) L.length vc) ∧ w'.cell? ⟨g, off + m * 2, none⟩ = some (.int .i64 y.1.out) ∧ w'.cell? ⟨g, off + m * 2 + 1, none⟩ = some (.slice ya yn yc) ∧ w'.cell? ⟨g, off + j * 2, none⟩ = some (.int .i64 x.1.out) ∧ w'.cell? ⟨g, off + j * 2 + 1, none⟩ = some (.slice xa xn xc)) (go_keep) (first | fail)
              all_goals go_wp2_with fail
              all_goals go_meet
              · exact ⟨_, _, rfl, rfl, by rw [HCY.out]; exact new_first W1 _ _, by rw [HCX.out]; exact new_second W1 _ _, (((Keep.refl _ W1).alloc _).alloc _).drew, by omega, by omega⟩
              · exact ⟨_, _, rfl, rfl, by rw [HCY.out]; exact new_second W1 _ _, by rw [HCX.out]; exact new_first W1 _ _, (((Keep.refl _ W1).alloc _).alloc _).drew, by omega, by omega⟩
            case rest =>
              obtain ⟨p4, p5, rfl, rfl, b4, b5, K2, h4g, h5g⟩ := hcut.ex
              rename World => W2
              have h4s : p4 < W2.heap.size := lt_of_block b4
              have HB4 := Lib.hid b4; have HB5 := Lib.hid b5; have HK2 := Lib.hid K2; have H4S := Lib.hid h4s
              clear b4 b5 K2 h4s hz hcut qy0 qy1 qx0 qx1
              go_wp2
              have hdg : d ≠ g := HND.out g rfl
              have HRA := Lib.hid ((HR2.out.keep K1.out (fun _ _ h => h)).keep HK2.out (fun _ _ h => h))
              have d2 : W2.cell? ⟨d, 3, none⟩ = some (.slice (some ⟨g, off, none⟩) L.length vc) := (HK2.out.cell hdl (fun h => h) _).trans c1
              clear c1
              have HT1 := Lib.hid (HRA.out.there (i := m) (by rw [HALL.out, List.length_append]; simp; have := HMM.out; omega))
              have x0 : W2.cell? ⟨p5, 0, none⟩ = some (.int .i64 x.1.out) := (cell_of_row W2 p5 0 _ _ _ HB5.out).trans (by rw [HCX.out]; rfl)
              have x1 : W2.cell? ⟨p5, 1, none⟩ = some (.slice xa xn xc) := (cell_of_row W2 p5 1 _ _ _ HB5.out).trans (by rw [HCX.out]; rfl)
              obtain ⟨u0, e0⟩ := Option.isSome_iff_exists.1 (HT1.out 0 (by omega)).1
              have f0 := (HT1.out 0 (by omega)).2
              obtain ⟨u1, e1⟩ := Option.isSome_iff_exists.1 (HT1.out 1 (by omega)).1
              have f1 := (HT1.out 1 (by omega)).2
              simp only [Nat.add_zero] at e0 f0
              have HE1 : Hid (W2.setCells g (off + m * 2) (recC x) = ((W2.setCell ⟨g, off + m * 2, none⟩ (.int .i64 x.1.out)).setCell ⟨g, off + m * 2 + 1, none⟩ (.slice xa xn xc))) := Lib.hid (by rw [HCX.out]; rfl)
              have KS : Keep (fun b => b = g) W2 (((W2.setCell ⟨g, off + m * 2, none⟩ (.int .i64 x.1.out)).setCell ⟨g, off + m * 2 + 1, none⟩ (.slice xa xn xc))).drew := by rw [← HE1.out]; exact (keep_cells _ _).drew
              have HS1 : Hid ((fun w' : World => w'.cell? ⟨d, 3, none⟩ = some (.slice (some ⟨g, off, none⟩) L.length vc) ∧ w'.cell? ⟨p5, 0, none⟩ = some (.int .i64 x.1.out) ∧ w'.cell? ⟨p5, 1, none⟩ = some (.slice xa xn xc)) (((W2.setCell ⟨g, off + m * 2, none⟩ (.int .i64 x.1.out)).setCell ⟨g, off + m * 2 + 1, none⟩ (.slice xa xn xc))).drew) := Lib.hid ⟨(KS.cell (World.block_lt_of_cell? _ _ d2) hdg _).trans d2, (KS.cell (World.block_lt_of_cell? _ _ x0) h5g _).trans x0, (KS.cell (World.block_lt_of_cell? _ _ x1) h5g _).trans x1⟩
              have HKS := Lib.hid KS
              clear KS
              go_region_held3 (fun w' => w'.cell? ⟨d, 3, none⟩ = some (.slice (some ⟨g, off, none⟩) L.length vc) ∧ w'.cell? ⟨p5, 0, none⟩ = some (.int .i64 x.1.out) ∧ w'.cell? ⟨p5, 1, none⟩ = some (.slice xa xn xc)) (first | (go_keep; done) | exact HS1.out) (first | fail)
              clear HS1 x0 e0 f0 x1 e1 f1
              clear u0 u1
              generalize hW3 : (((W2.setCell ⟨g, off + m * 2, none⟩ (.int .i64 x.1.out)).setCell ⟨g, off + m * 2 + 1, none⟩ (.slice xa xn xc))).drew = W3
              have hW4 : W3 = (W2.setCells g (off + m * 2) (recC x)).drew := by rw [HE1.out]; exact hW3.symm
              have HKW3 : Hid (Keep (fun b => b = g) W2 W3) := Lib.hid (by rw [← hW3]; exact HKS.out)
              have HRB : Hid (Rec W3 83 recC 2 (.slice (some ⟨g, off, none⟩) L.length vc) ((A' ++ [x]) ++ x :: (B2 ++ C2))) := Lib.hid (by
                rw [hW4]
                have h0 := HRA.out
                rw [HALL.out] at h0
                have h1 := h0.put recC_len x
                rw [← HMM.out] at h1
                have h2 : (A' ++ [x]) ++ x :: (B2 ++ C2) = A' ++ x :: (x :: (B2 ++ C2)) := by simp
                rw [h2]
                exact Row.drew h1)
              have d3 : W3.cell? ⟨d, 3, none⟩ = some (.slice (some ⟨g, off, none⟩) L.length vc) := (HKW3.out.cell (World.block_lt_of_cell? _ _ d2) hdg _).trans d2
              have HB6 : Hid (W3.heap[p4]? = some (.cells (recC y).toArray 83 (0, 0))) := Lib.hid ((HKW3.out.block p4 H4S.out h4g).trans HB4.out)
              clear hW3 hW4 HE1 HKS HT1 d2 HB4 HB5
              go_wp2
              have HT2 := Lib.hid (HRB.out.there (i := j) (by rw [List.length_append, List.length_append, List.length_cons]; simp; have := HMM.out; have := HJ.out; omega))
              have x0 : W3.cell? ⟨p4, 0, none⟩ = some (.int .i64 y.1.out) := (cell_of_row W3 p4 0 _ _ _ HB6.out).trans (by rw [HCY.out]; rfl)
              have x1 : W3.cell? ⟨p4, 1, none⟩ = some (.slice ya yn yc) := (cell_of_row W3 p4 1 _ _ _ HB6.out).trans (by rw [HCY.out]; rfl)
              obtain ⟨u0, e0⟩ := Option.isSome_iff_exists.1 (HT2.out 0 (by omega)).1
              have f0 := (HT2.out 0 (by omega)).2
              obtain ⟨u1, e1⟩ := Option.isSome_iff_exists.1 (HT2.out 1 (by omega)).1
              have f1 := (HT2.out 1 (by omega)).2
              simp only [Nat.add_zero] at e0 f0
              have HE1 : Hid (W3.setCells g (off + j * 2) (recC y) = ((W3.setCell ⟨g, off + j * 2, none⟩ (.int .i64 y.1.out)).setCell ⟨g, off + j * 2 + 1, none⟩ (.slice ya yn yc))) := Lib.hid (by rw [HCY.out]; rfl)
              have KS : Keep (fun b => b = g) W3 (((W3.setCell ⟨g, off + j * 2, none⟩ (.int .i64 y.1.out)).setCell ⟨g, off + j * 2 + 1, none⟩ (.slice ya yn yc))).drew := by rw [← HE1.out]; exact (keep_cells _ _).drew
              have HS1 : Hid ((fun w' : World => w'.cell? ⟨d, 3, none⟩ = some (.slice (some ⟨g, off, none⟩) L.length vc) ∧ w'.cell? ⟨p4, 0, none⟩ = some (.int .i64 y.1.out) ∧ w'.cell? ⟨p4, 1, none⟩ = some (.slice ya yn yc)) (((W3.setCell ⟨g, off + j * 2, none⟩ (.int .i64 y.1.out)).setCell ⟨g, off + j * 2 + 1, none⟩ (.slice ya yn yc))).drew) := Lib.hid ⟨(KS.cell (World.block_lt_of_cell? _ _ d3) hdg _).trans d3, (KS.cell (World.block_lt_of_cell? _ _ x0) h4g _).trans x0, (KS.cell (World.block_lt_of_cell? _ _ x1) h4g _).trans x1⟩
              have HKS := Lib.hid KS
              clear KS
              go_region_held3 (fun w' => w'.cell? ⟨d, 3, none⟩ = some (.slice (some ⟨g, off, none⟩) L.length vc) ∧ w'.cell? ⟨p4, 0, none⟩ = some (.int .i64 y.1.out) ∧ w'.cell? ⟨p4, 1, none⟩ = some (.slice ya yn yc)) (first | (go_keep; done) | exact HS1.out) (first | fail)
              clear HS1 x0 e0 f0 x1 e1 f1
              clear u0 u1
              generalize hW3 : (((W3.setCell ⟨g, off + j * 2, none⟩ (.int .i64 y.1.out)).setCell ⟨g, off + j * 2 + 1, none⟩ (.slice ya yn yc))).drew = W4
              have hW4 : W4 = (W3.setCells g (off + j * 2) (recC y)).drew := by rw [HE1.out]; exact hW3.symm
              have HKW4 : Hid (Keep (fun b => b = g) W3 W4) := Lib.hid (by rw [← hW3]; exact HKS.out)
              have HRC : Hid (Rec W4 83 recC 2 (.slice (some ⟨g, off, none⟩) L.length vc) (A' ++ x :: (y :: B2 ++ C2))) := Lib.hid (by
                rw [hW4]
                have h1 := HRB.out.put recC_len y
                rw [show (A' ++ [x]).length = j by rw [List.length_append, ← HMM.out, HJ.out]; rfl] at h1
                have h2 : A' ++ x :: (y :: B2 ++ C2) = (A' ++ [x]) ++ y :: (B2 ++ C2) := by simp
                rw [h2]
                exact Row.drew h1)
              clear hW3 hW4 HE1 HKS HT2 d3
              go_wp2
              go_roundw
              case rel =>
                obtain ⟨t1, t2⟩ := so_step (key := (fun p : RecM × Value => RecM.out p.1)) HS2.out HB2.out hxy
                have T : SoI (fun p : RecM × Value => RecM.out p.1) 83 recC 2 (.slice (some ⟨g, off, none⟩) L.length vc) L i s4 (.int .i64 ((j : Int) - 1)) W4 := ⟨A', x, y :: B2, C2, by congr 1; have h1 := HMM.out; have h2 := HJ.out; omega, by have := HAB.out; have := HAL.out; have := HJ.out; have := HMM.out; simp at this ⊢; omega, so_swap HPM2.out, t1, t2, HRC.out,
                  (((HKQ.out.trans K1.out (fun _ h => h.elim)).trans HK2.out (fun _ h => h.elim)).trans HKW3.out (fun b hb => .inl (by rw [hb]; rfl))).trans HKW4.out (fun b hb => .inl (by rw [hb]; rfl))⟩
                first | exact T | ((repeat apply Exists.intro); first | exact T | exact ⟨T, rfl⟩)
              case measure => simp [intOf]; omega
          · have dxy : decide (x.1.out < y.1.out) = false := by simpa using hxy
            go_wp2
            go_quiet (fail)
            go_wp2
            go_roundw
            case rel => have T := HEX.out (wr.drewN nq) (keep_drewN wr nq) (Or.inr ⟨A', y, rfl, by show y.1.out ≤ x.1.out; omega⟩); first | exact T | ((repeat apply Exists.intro); first | exact T | exact ⟨T, rfl⟩)
            case measure => simp [intOf]; omega
    · have hd1 : decide (i < L.length) = false := by rw [decide_eq_false_iff_not]; exact hlt
      go_wp2
      obtain rfl : C = [] := List.eq_nil_of_length_eq_zero (by omega)
      have hso : SortOf (fun p : RecM × Value => RecM.out p.1) L A := ⟨by simpa using HPM.out, HS.out⟩
      have hrA : Rec wr 83 recC 2 v4 A := by rw [HVE.out]; simpa using HR.out
      have hkA : Keep (fun b => v4.ownBlock = some b) s4 wr := by rw [HVE.out]; exact HK.out
      exact HQ.out _ _ A ⟨rfl, rfl, rfl⟩ hso hrA hkA

set_option maxHeartbeats 16000000 in
theorem sortPart5 {s5 : World} {d : Nat} {v1 v2 v3 v4 v5 v6 : Value} {L : List (QuestM)} (hb : s5.heap[d]? = some (.cells #[v1, v2, v3, v4, v5, v6] 50 (0, 0))) (h1 : Rec s5 86 questC 5 v5 L) (hnl : L.length ≤ 1000000) {a : Act} (ha : Fr d a) {Q : Exit → Act → World → Prop}
    (hQ : ∀ a' w' M, Fr d a' → SortOf QuestM.id L M → Rec w' 86 questC 5 v5 M → Keep (fun b => v5.ownBlock = some b) s5 w' → Q .normal a' w') : (seqPart 4 (Tryz.f23.body.getD .skip)).wp Tryz.prog Q a s5 := by
  obtain ⟨u, rfl⟩ := ha.arr
  have HQ := Lib.hid hQ
  have HBK := Lib.hid hb

  clear ha hQ hb
  simp only [Tryz.f23, Option.getD_some, seqPart]
  obtain ⟨va, vc, hve, hc1, hc2⟩ := h1.slice
  rw [hve] at h1
  unfold maxLen at hc2
  have HVE := Lib.hid hve
  have p1 : s5.cell? ⟨d, 4, none⟩ = some (.slice va L.length vc) := by rw [← hve]; exact (cell_of_row s5 d 4 _ _ _ HBK.out).trans rfl
  have HND : Hid (∀ b, (Value.slice va L.length vc).ownBlock = some b → d ≠ b) := Lib.hid (fun b hb e => by subst e; obtain ⟨cs, f, e⟩ := h1.type hb; exact ty_ne HBK.out e (by decide) rfl)
  have HP : Hid (∀ w9, Keep (fun b => (Value.slice va L.length vc).ownBlock = some b) s5 w9 → w9.cell? ⟨d, 4, none⟩ = some (.slice va L.length vc)) := Lib.hid (fun w9 k => (k.cell (World.block_lt_of_cell? _ _ p1) (fun hf => HND.out d hf rfl) _).trans p1)
  have H1 := Lib.hid h1
  clear h1 hve p1
  go_wp2
  go_loopw [18, 19, 20, 21] (fun iv _ _ _ wr => SoO QuestM.id 86 questC 5 (.slice va L.length vc) L s5 iv wr) (fun iv _ _ _ _ => L.length - (intOf iv).toNat)
  case atStart => exact ⟨[], L, rfl, List.Perm.refl _, List.Pairwise.nil, H1.out, Keep.refl _ _⟩
  case round =>
    obtain ⟨A, C, rfl, hp, hs, hr, hk⟩ := hrel.ex
    have HPM := Lib.hid hp; have HS := Lib.hid hs; have HR := Lib.hid hr; have HK := Lib.hid hk
    have q0 := HP.out wr hk
    have hlen := hp.length_eq
    rw [List.length_append] at hlen
    clear hp hs hr hk hrel
    obtain ⟨i, hi⟩ : ∃ i, i = A.length := ⟨_, rfl⟩
    rw [← hi] at hlen ⊢
    by_cases hlt : i < L.length
    · have hd1 : decide (i < L.length) = true := by simpa using hlt
      obtain ⟨x0, C0, rfl⟩ : ∃ x C', C = x :: C' := by
        cases C with
        | nil => simp at hlen; omega
        | cons x C' => exact ⟨x, C', rfl⟩
      obtain ⟨g, off, rfl, _⟩ := HR.out.some (i := i) (x := x0) (by rw [hi]; exact mid_get)
      have HI := Lib.hid hi
      clear hi
      go_wp2
      go_loopw [19, 20, 21] (fun kv _ _ wq => SoI QuestM.id 86 questC 5 (.slice (some ⟨g, off, none⟩) L.length vc) L i s5 kv wq) (fun kv _ _ _ => (intOf kv).toNat)
      case atStart => exact ⟨A, x0, [], C0, by rw [HI.out], by rw [HI.out]; rfl, HPM.out, by simpa using HS.out, by simp, HR.out, HK.out⟩
      case round =>
        obtain ⟨A2, x, B2, C2, rfl, hab, hp, hs, hB, hr, hk⟩ := hrel.ex
        have HPM2 := Lib.hid hp; have HS2 := Lib.hid hs; have HB2 := Lib.hid hB; have HR2 := Lib.hid hr; have HKQ := Lib.hid hk; have HAB := Lib.hid hab
        have r0 := HP.out wr hk
        clear hp hs hB hr hk hrel hab q0
        have HEX : Hid (∀ (w9 : World) (_ : Keep (fun _ => False) wr w9) (_ : A2 = [] ∨ ∃ A' y, A2 = A' ++ [y] ∧ QuestM.id y ≤ QuestM.id x), SoO QuestM.id 86 questC 5 (.slice (some ⟨g, off, none⟩) L.length vc) L s5 (.int .i64 ((i + 1 : Nat) : Int)) w9) := Lib.hid (fun w9 k9 hA =>
          ⟨A2 ++ x :: B2, C2, by rw [List.length_append, List.length_cons, ← HAB.out]; rfl, by simpa using HPM2.out, so_done HS2.out HB2.out hA, by simpa using HR2.out.keep k9 (fun _ _ h => h), HKQ.out.trans k9 (fun _ h => h.elim)⟩)
        rcases List.eq_nil_or_concat A2 with hA | ⟨A', y, hA⟩
        · subst hA
          go_wp2
          go_quiet (fail)
          go_wp2
          go_roundw
          case rel => have T := HEX.out (wr.drewN nq) (keep_drewN wr nq) (Or.inl (by simp)); first | exact T | ((repeat apply Exists.intro); first | exact T | exact ⟨T, rfl⟩)
          case measure => simp [intOf]; omega
        · have hA' : A2 = A' ++ [y] := by simpa using hA
          subst hA'
          obtain ⟨m, hm⟩ : ∃ m, m = A'.length := ⟨_, rfl⟩
          have HMM := Lib.hid hm
          obtain ⟨j, hj⟩ : ∃ j, j = m + 1 := ⟨_, rfl⟩
          have hal : (A' ++ [y]).length = j := by rw [hj, hm]; simp
          have hml : j < L.length := by have h0 := HPM2.out.length_eq; rw [List.length_append, hal, List.length_cons] at h0; omega
          have HALL : Hid ((A' ++ [y]) ++ x :: (B2 ++ C2) = A' ++ y :: (x :: (B2 ++ C2))) := Lib.hid (by simp)
          have HCX : Hid (questC x = [.int .i64 x.id, .int .i64 x.item, .int .i64 x.count, .int .i64 x.gold, .int .i64 x.reward]) := Lib.hid (rfl)
          have HCY : Hid (questC y = [.int .i64 y.id, .int .i64 y.item, .int .i64 y.count, .int .i64 y.gold, .int .i64 y.reward]) := Lib.hid (rfl)
          have hry := HR2.out.range questC_len m y (by rw [HALL.out, hm]; exact mid_get)
          have hrx := HR2.out.range questC_len j x (by rw [← hal]; exact mid_get)
          have cy : wr.cell? ⟨g, off + m * 5, none⟩ = some (.int .i64 y.id) := hry 0 _ rfl
          have cx : wr.cell? ⟨g, off + j * 5, none⟩ = some (.int .i64 x.id) := hrx 0 _ rfl
          have HRY := Lib.hid hry; have HRX := Lib.hid hrx
          rw [hal]
          have hw1 : IntKind.i64.wrap ((j : Int) - 1) = (j : Int) - 1 := IntWalk.i64_in _ (by omega)
          have hw2 : (0 : Int) ≤ (j : Int) - 1 := by omega
          have hw3 : (1 : Int) ≤ (j : Int) := by omega
          have hw4 : (j : Int) - 1 < (L.length : Int) := by omega
          have hw5 : ((j : Int) - 1).toNat = m := by omega
          have hd0 : decide (0 < j) = true := by rw [decide_eq_true_eq]; omega
          have HJ := Lib.hid hj
          have HAL := Lib.hid hal
          clear hm hal hA hry hrx hj
          by_cases hxy : x.id < y.id
          · have dxy : decide (x.id < y.id) = true := by simpa using hxy
            go_wp2
            go_quiet (fail)
            go_upto_region 42 with (fail)
            have K1 := Lib.hid (keep_drewN (F := fun _ => False) wr nq)
            generalize wr.drewN nq = W1 at K1 ⊢
            have HRY1 : W1.rangeAt g (off + m * 5) (questC y) := range_keep HRY.out K1.out (HR2.out.row.lt rfl) (fun h => h)
            have HRX1 : W1.rangeAt g (off + j * 5) (questC x) := range_keep HRX.out K1.out (HR2.out.row.lt rfl) (fun h => h)
            have c1 : W1.cell? ⟨d, 4, none⟩ = some (.slice (some ⟨g, off, none⟩) L.length vc) := (K1.out.cell (World.block_lt_of_cell? _ _ r0) (fun h => h) _).trans r0
            have qy0 : W1.cell? ⟨g, off + m * 5, none⟩ = some (.int .i64 y.id) := HRY1 0 _ (by rw [HCY.out]; rfl)
            have qy1 : W1.cell? ⟨g, off + m * 5 + 1, none⟩ = some (.int .i64 y.item) := HRY1 1 _ (by rw [HCY.out]; rfl)
            have qy2 : W1.cell? ⟨g, off + m * 5 + 2, none⟩ = some (.int .i64 y.count) := HRY1 2 _ (by rw [HCY.out]; rfl)
            have qy3 : W1.cell? ⟨g, off + m * 5 + 3, none⟩ = some (.int .i64 y.gold) := HRY1 3 _ (by rw [HCY.out]; rfl)
            have qy4 : W1.cell? ⟨g, off + m * 5 + 4, none⟩ = some (.int .i64 y.reward) := HRY1 4 _ (by rw [HCY.out]; rfl)
            have qx0 : W1.cell? ⟨g, off + j * 5, none⟩ = some (.int .i64 x.id) := HRX1 0 _ (by rw [HCX.out]; rfl)
            have qx1 : W1.cell? ⟨g, off + j * 5 + 1, none⟩ = some (.int .i64 x.item) := HRX1 1 _ (by rw [HCX.out]; rfl)
            have qx2 : W1.cell? ⟨g, off + j * 5 + 2, none⟩ = some (.int .i64 x.count) := HRX1 2 _ (by rw [HCX.out]; rfl)
            have qx3 : W1.cell? ⟨g, off + j * 5 + 3, none⟩ = some (.int .i64 x.gold) := HRX1 3 _ (by rw [HCX.out]; rfl)
            have qx4 : W1.cell? ⟨g, off + j * 5 + 4, none⟩ = some (.int .i64 x.reward) := HRX1 4 _ (by rw [HCX.out]; rfl)
            have hz : ∀ w : World, (zeroValue 86).run Tryz.prog w = .ok (.agg #[.int .i64 0, .int .i64 0, .int .i64 0, .int .i64 0, .int .i64 0]) w := fun w => by kernel_rfl
            clear r0 cy cx HRY1 HRX1
            have hgl : g < W1.heap.size := Nat.lt_of_lt_of_le (HR2.out.row.lt rfl) K1.out.size
            have hdl : d < W1.heap.size := World.block_lt_of_cell? _ _ c1
            go_cut [20, 21] from 292 to 345 (fun pa pb wx => SwR (questC x) (questC y) 86 g W1 pa pb wx)
            case first =>
              go_region_held3 (fun w' => w'.cell? ⟨d, 4, none⟩ = some (.slice (some ⟨g, off, none⟩) L.length vc) ∧ w'.cell? ⟨g, off + m * 5, none⟩ = some (.int .i64 y.id) ∧ w'.cell? ⟨g, off + m * 5 + 1, none⟩ = some (.int .i64 y.item) ∧ w'.cell? ⟨g, off + m * 5 + 2, none⟩ = some (.int .i64 y.count) ∧ w'.cell? ⟨g, off + m * 5 + 3, none⟩ = some (.int .i64 y.gold) ∧ w'.cell? ⟨g, off + m * 5 + 4, none⟩ = some (.int .i64 y.reward) ∧ w'.cell? ⟨g, off + j * 5, none⟩ = some (.int .i64 x.id) ∧ w'.cell? ⟨g, off + j * 5 + 1, none⟩ = some (.int .i64 x.item) ∧ w'.cell? ⟨g, off + j * 5 + 2, none⟩ = some (.int .i64 x.count) ∧ w'.cell? ⟨g, off + j * 5 + 3, none⟩ = some (.int .i64 x.gold) ∧ w'.cell? ⟨g, off + j * 5 + 4, none⟩ = some (.int .i64 x.reward)) (go_keep) (first | fail)
              all_goals go_wp2_with fail
              all_goals go_meet
              · exact ⟨_, _, rfl, rfl, by rw [HCY.out]; exact new_first W1 _ _, by rw [HCX.out]; exact new_second W1 _ _, (((Keep.refl _ W1).alloc _).alloc _).drew, by omega, by omega⟩
              · exact ⟨_, _, rfl, rfl, by rw [HCY.out]; exact new_second W1 _ _, by rw [HCX.out]; exact new_first W1 _ _, (((Keep.refl _ W1).alloc _).alloc _).drew, by omega, by omega⟩
            case rest =>
              obtain ⟨p4, p5, rfl, rfl, b4, b5, K2, h4g, h5g⟩ := hcut.ex
              rename World => W2
              have h4s : p4 < W2.heap.size := lt_of_block b4
              have HB4 := Lib.hid b4; have HB5 := Lib.hid b5; have HK2 := Lib.hid K2; have H4S := Lib.hid h4s
              clear b4 b5 K2 h4s hz hcut qy0 qy1 qy2 qy3 qy4 qx0 qx1 qx2 qx3 qx4
              go_wp2
              have hdg : d ≠ g := HND.out g rfl
              have HRA := Lib.hid ((HR2.out.keep K1.out (fun _ _ h => h)).keep HK2.out (fun _ _ h => h))
              have d2 : W2.cell? ⟨d, 4, none⟩ = some (.slice (some ⟨g, off, none⟩) L.length vc) := (HK2.out.cell hdl (fun h => h) _).trans c1
              clear c1
              have HT1 := Lib.hid (HRA.out.there (i := m) (by rw [HALL.out, List.length_append]; simp; have := HMM.out; omega))
              have x0 : W2.cell? ⟨p5, 0, none⟩ = some (.int .i64 x.id) := (cell_of_row W2 p5 0 _ _ _ HB5.out).trans (by rw [HCX.out]; rfl)
              have x1 : W2.cell? ⟨p5, 1, none⟩ = some (.int .i64 x.item) := (cell_of_row W2 p5 1 _ _ _ HB5.out).trans (by rw [HCX.out]; rfl)
              have x2 : W2.cell? ⟨p5, 2, none⟩ = some (.int .i64 x.count) := (cell_of_row W2 p5 2 _ _ _ HB5.out).trans (by rw [HCX.out]; rfl)
              have x3 : W2.cell? ⟨p5, 3, none⟩ = some (.int .i64 x.gold) := (cell_of_row W2 p5 3 _ _ _ HB5.out).trans (by rw [HCX.out]; rfl)
              have x4 : W2.cell? ⟨p5, 4, none⟩ = some (.int .i64 x.reward) := (cell_of_row W2 p5 4 _ _ _ HB5.out).trans (by rw [HCX.out]; rfl)
              obtain ⟨u0, e0⟩ := Option.isSome_iff_exists.1 (HT1.out 0 (by omega)).1
              have f0 := (HT1.out 0 (by omega)).2
              obtain ⟨u1, e1⟩ := Option.isSome_iff_exists.1 (HT1.out 1 (by omega)).1
              have f1 := (HT1.out 1 (by omega)).2
              obtain ⟨u2, e2⟩ := Option.isSome_iff_exists.1 (HT1.out 2 (by omega)).1
              have f2 := (HT1.out 2 (by omega)).2
              obtain ⟨u3, e3⟩ := Option.isSome_iff_exists.1 (HT1.out 3 (by omega)).1
              have f3 := (HT1.out 3 (by omega)).2
              obtain ⟨u4, e4⟩ := Option.isSome_iff_exists.1 (HT1.out 4 (by omega)).1
              have f4 := (HT1.out 4 (by omega)).2
              simp only [Nat.add_zero] at e0 f0
              have HE1 : Hid (W2.setCells g (off + m * 5) (questC x) = (((((W2.setCell ⟨g, off + m * 5, none⟩ (.int .i64 x.id)).setCell ⟨g, off + m * 5 + 1, none⟩ (.int .i64 x.item)).setCell ⟨g, off + m * 5 + 2, none⟩ (.int .i64 x.count)).setCell ⟨g, off + m * 5 + 3, none⟩ (.int .i64 x.gold)).setCell ⟨g, off + m * 5 + 4, none⟩ (.int .i64 x.reward))) := Lib.hid (by rw [HCX.out]; rfl)
              have KS : Keep (fun b => b = g) W2 ((((((W2.setCell ⟨g, off + m * 5, none⟩ (.int .i64 x.id)).setCell ⟨g, off + m * 5 + 1, none⟩ (.int .i64 x.item)).setCell ⟨g, off + m * 5 + 2, none⟩ (.int .i64 x.count)).setCell ⟨g, off + m * 5 + 3, none⟩ (.int .i64 x.gold)).setCell ⟨g, off + m * 5 + 4, none⟩ (.int .i64 x.reward))).drew := by rw [← HE1.out]; exact (keep_cells _ _).drew
              have HS1 : Hid ((fun w' : World => w'.cell? ⟨d, 4, none⟩ = some (.slice (some ⟨g, off, none⟩) L.length vc) ∧ w'.cell? ⟨p5, 0, none⟩ = some (.int .i64 x.id) ∧ w'.cell? ⟨p5, 1, none⟩ = some (.int .i64 x.item) ∧ w'.cell? ⟨p5, 2, none⟩ = some (.int .i64 x.count) ∧ w'.cell? ⟨p5, 3, none⟩ = some (.int .i64 x.gold) ∧ w'.cell? ⟨p5, 4, none⟩ = some (.int .i64 x.reward)) ((((((W2.setCell ⟨g, off + m * 5, none⟩ (.int .i64 x.id)).setCell ⟨g, off + m * 5 + 1, none⟩ (.int .i64 x.item)).setCell ⟨g, off + m * 5 + 2, none⟩ (.int .i64 x.count)).setCell ⟨g, off + m * 5 + 3, none⟩ (.int .i64 x.gold)).setCell ⟨g, off + m * 5 + 4, none⟩ (.int .i64 x.reward))).drew) := Lib.hid ⟨(KS.cell (World.block_lt_of_cell? _ _ d2) hdg _).trans d2, (KS.cell (World.block_lt_of_cell? _ _ x0) h5g _).trans x0, (KS.cell (World.block_lt_of_cell? _ _ x1) h5g _).trans x1, (KS.cell (World.block_lt_of_cell? _ _ x2) h5g _).trans x2, (KS.cell (World.block_lt_of_cell? _ _ x3) h5g _).trans x3, (KS.cell (World.block_lt_of_cell? _ _ x4) h5g _).trans x4⟩
              have HKS := Lib.hid KS
              clear KS
              go_region_held3 (fun w' => w'.cell? ⟨d, 4, none⟩ = some (.slice (some ⟨g, off, none⟩) L.length vc) ∧ w'.cell? ⟨p5, 0, none⟩ = some (.int .i64 x.id) ∧ w'.cell? ⟨p5, 1, none⟩ = some (.int .i64 x.item) ∧ w'.cell? ⟨p5, 2, none⟩ = some (.int .i64 x.count) ∧ w'.cell? ⟨p5, 3, none⟩ = some (.int .i64 x.gold) ∧ w'.cell? ⟨p5, 4, none⟩ = some (.int .i64 x.reward)) (first | (go_keep; done) | exact HS1.out) (first | fail)
              clear HS1 x0 e0 f0 x1 e1 f1 x2 e2 f2 x3 e3 f3 x4 e4 f4
              clear u0 u1 u2 u3 u4
              generalize hW3 : ((((((W2.setCell ⟨g, off + m * 5, none⟩ (.int .i64 x.id)).setCell ⟨g, off + m * 5 + 1, none⟩ (.int .i64 x.item)).setCell ⟨g, off + m * 5 + 2, none⟩ (.int .i64 x.count)).setCell ⟨g, off + m * 5 + 3, none⟩ (.int .i64 x.gold)).setCell ⟨g, off + m * 5 + 4, none⟩ (.int .i64 x.reward))).drew = W3
              have hW4 : W3 = (W2.setCells g (off + m * 5) (questC x)).drew := by rw [HE1.out]; exact hW3.symm
              have HKW3 : Hid (Keep (fun b => b = g) W2 W3) := Lib.hid (by rw [← hW3]; exact HKS.out)
              have HRB : Hid (Rec W3 86 questC 5 (.slice (some ⟨g, off, none⟩) L.length vc) ((A' ++ [x]) ++ x :: (B2 ++ C2))) := Lib.hid (by
                rw [hW4]
                have h0 := HRA.out
                rw [HALL.out] at h0
                have h1 := h0.put questC_len x
                rw [← HMM.out] at h1
                have h2 : (A' ++ [x]) ++ x :: (B2 ++ C2) = A' ++ x :: (x :: (B2 ++ C2)) := by simp
                rw [h2]
                exact Row.drew h1)
              have d3 : W3.cell? ⟨d, 4, none⟩ = some (.slice (some ⟨g, off, none⟩) L.length vc) := (HKW3.out.cell (World.block_lt_of_cell? _ _ d2) hdg _).trans d2
              have HB6 : Hid (W3.heap[p4]? = some (.cells (questC y).toArray 86 (0, 0))) := Lib.hid ((HKW3.out.block p4 H4S.out h4g).trans HB4.out)
              clear hW3 hW4 HE1 HKS HT1 d2 HB4 HB5
              go_wp2
              have HT2 := Lib.hid (HRB.out.there (i := j) (by rw [List.length_append, List.length_append, List.length_cons]; simp; have := HMM.out; have := HJ.out; omega))
              have x0 : W3.cell? ⟨p4, 0, none⟩ = some (.int .i64 y.id) := (cell_of_row W3 p4 0 _ _ _ HB6.out).trans (by rw [HCY.out]; rfl)
              have x1 : W3.cell? ⟨p4, 1, none⟩ = some (.int .i64 y.item) := (cell_of_row W3 p4 1 _ _ _ HB6.out).trans (by rw [HCY.out]; rfl)
              have x2 : W3.cell? ⟨p4, 2, none⟩ = some (.int .i64 y.count) := (cell_of_row W3 p4 2 _ _ _ HB6.out).trans (by rw [HCY.out]; rfl)
              have x3 : W3.cell? ⟨p4, 3, none⟩ = some (.int .i64 y.gold) := (cell_of_row W3 p4 3 _ _ _ HB6.out).trans (by rw [HCY.out]; rfl)
              have x4 : W3.cell? ⟨p4, 4, none⟩ = some (.int .i64 y.reward) := (cell_of_row W3 p4 4 _ _ _ HB6.out).trans (by rw [HCY.out]; rfl)
              obtain ⟨u0, e0⟩ := Option.isSome_iff_exists.1 (HT2.out 0 (by omega)).1
              have f0 := (HT2.out 0 (by omega)).2
              obtain ⟨u1, e1⟩ := Option.isSome_iff_exists.1 (HT2.out 1 (by omega)).1
              have f1 := (HT2.out 1 (by omega)).2
              obtain ⟨u2, e2⟩ := Option.isSome_iff_exists.1 (HT2.out 2 (by omega)).1
              have f2 := (HT2.out 2 (by omega)).2
              obtain ⟨u3, e3⟩ := Option.isSome_iff_exists.1 (HT2.out 3 (by omega)).1
              have f3 := (HT2.out 3 (by omega)).2
              obtain ⟨u4, e4⟩ := Option.isSome_iff_exists.1 (HT2.out 4 (by omega)).1
              have f4 := (HT2.out 4 (by omega)).2
              simp only [Nat.add_zero] at e0 f0
              have HE1 : Hid (W3.setCells g (off + j * 5) (questC y) = (((((W3.setCell ⟨g, off + j * 5, none⟩ (.int .i64 y.id)).setCell ⟨g, off + j * 5 + 1, none⟩ (.int .i64 y.item)).setCell ⟨g, off + j * 5 + 2, none⟩ (.int .i64 y.count)).setCell ⟨g, off + j * 5 + 3, none⟩ (.int .i64 y.gold)).setCell ⟨g, off + j * 5 + 4, none⟩ (.int .i64 y.reward))) := Lib.hid (by rw [HCY.out]; rfl)
              have KS : Keep (fun b => b = g) W3 ((((((W3.setCell ⟨g, off + j * 5, none⟩ (.int .i64 y.id)).setCell ⟨g, off + j * 5 + 1, none⟩ (.int .i64 y.item)).setCell ⟨g, off + j * 5 + 2, none⟩ (.int .i64 y.count)).setCell ⟨g, off + j * 5 + 3, none⟩ (.int .i64 y.gold)).setCell ⟨g, off + j * 5 + 4, none⟩ (.int .i64 y.reward))).drew := by rw [← HE1.out]; exact (keep_cells _ _).drew
              have HS1 : Hid ((fun w' : World => w'.cell? ⟨d, 4, none⟩ = some (.slice (some ⟨g, off, none⟩) L.length vc) ∧ w'.cell? ⟨p4, 0, none⟩ = some (.int .i64 y.id) ∧ w'.cell? ⟨p4, 1, none⟩ = some (.int .i64 y.item) ∧ w'.cell? ⟨p4, 2, none⟩ = some (.int .i64 y.count) ∧ w'.cell? ⟨p4, 3, none⟩ = some (.int .i64 y.gold) ∧ w'.cell? ⟨p4, 4, none⟩ = some (.int .i64 y.reward)) ((((((W3.setCell ⟨g, off + j * 5, none⟩ (.int .i64 y.id)).setCell ⟨g, off + j * 5 + 1, none⟩ (.int .i64 y.item)).setCell ⟨g, off + j * 5 + 2, none⟩ (.int .i64 y.count)).setCell ⟨g, off + j * 5 + 3, none⟩ (.int .i64 y.gold)).setCell ⟨g, off + j * 5 + 4, none⟩ (.int .i64 y.reward))).drew) := Lib.hid ⟨(KS.cell (World.block_lt_of_cell? _ _ d3) hdg _).trans d3, (KS.cell (World.block_lt_of_cell? _ _ x0) h4g _).trans x0, (KS.cell (World.block_lt_of_cell? _ _ x1) h4g _).trans x1, (KS.cell (World.block_lt_of_cell? _ _ x2) h4g _).trans x2, (KS.cell (World.block_lt_of_cell? _ _ x3) h4g _).trans x3, (KS.cell (World.block_lt_of_cell? _ _ x4) h4g _).trans x4⟩
              have HKS := Lib.hid KS
              clear KS
              go_region_held3 (fun w' => w'.cell? ⟨d, 4, none⟩ = some (.slice (some ⟨g, off, none⟩) L.length vc) ∧ w'.cell? ⟨p4, 0, none⟩ = some (.int .i64 y.id) ∧ w'.cell? ⟨p4, 1, none⟩ = some (.int .i64 y.item) ∧ w'.cell? ⟨p4, 2, none⟩ = some (.int .i64 y.count) ∧ w'.cell? ⟨p4, 3, none⟩ = some (.int .i64 y.gold) ∧ w'.cell? ⟨p4, 4, none⟩ = some (.int .i64 y.reward)) (first | (go_keep; done) | exact HS1.out) (first | fail)
              clear HS1 x0 e0 f0 x1 e1 f1 x2 e2 f2 x3 e3 f3 x4 e4 f4
              clear u0 u1 u2 u3 u4
              generalize hW3 : ((((((W3.setCell ⟨g, off + j * 5, none⟩ (.int .i64 y.id)).setCell ⟨g, off + j * 5 + 1, none⟩ (.int .i64 y.item)).setCell ⟨g, off + j * 5 + 2, none⟩ (.int .i64 y.count)).setCell ⟨g, off + j * 5 + 3, none⟩ (.int .i64 y.gold)).setCell ⟨g, off + j * 5 + 4, none⟩ (.int .i64 y.reward))).drew = W4
              have hW4 : W4 = (W3.setCells g (off + j * 5) (questC y)).drew := by rw [HE1.out]; exact hW3.symm
              have HKW4 : Hid (Keep (fun b => b = g) W3 W4) := Lib.hid (by rw [← hW3]; exact HKS.out)
              have HRC : Hid (Rec W4 86 questC 5 (.slice (some ⟨g, off, none⟩) L.length vc) (A' ++ x :: (y :: B2 ++ C2))) := Lib.hid (by
                rw [hW4]
                have h1 := HRB.out.put questC_len y
                rw [show (A' ++ [x]).length = j by rw [List.length_append, ← HMM.out, HJ.out]; rfl] at h1
                have h2 : A' ++ x :: (y :: B2 ++ C2) = (A' ++ [x]) ++ y :: (B2 ++ C2) := by simp
                rw [h2]
                exact Row.drew h1)
              clear hW3 hW4 HE1 HKS HT2 d3
              go_wp2
              go_roundw
              case rel =>
                obtain ⟨t1, t2⟩ := so_step (key := QuestM.id) HS2.out HB2.out hxy
                have T : SoI QuestM.id 86 questC 5 (.slice (some ⟨g, off, none⟩) L.length vc) L i s5 (.int .i64 ((j : Int) - 1)) W4 := ⟨A', x, y :: B2, C2, by congr 1; have h1 := HMM.out; have h2 := HJ.out; omega, by have := HAB.out; have := HAL.out; have := HJ.out; have := HMM.out; simp at this ⊢; omega, so_swap HPM2.out, t1, t2, HRC.out,
                  (((HKQ.out.trans K1.out (fun _ h => h.elim)).trans HK2.out (fun _ h => h.elim)).trans HKW3.out (fun b hb => .inl (by rw [hb]; rfl))).trans HKW4.out (fun b hb => .inl (by rw [hb]; rfl))⟩
                first | exact T | ((repeat apply Exists.intro); first | exact T | exact ⟨T, rfl⟩)
              case measure => simp [intOf]; omega
          · have dxy : decide (x.id < y.id) = false := by simpa using hxy
            go_wp2
            go_quiet (fail)
            go_wp2
            go_roundw
            case rel => have T := HEX.out (wr.drewN nq) (keep_drewN wr nq) (Or.inr ⟨A', y, rfl, by show y.id ≤ x.id; omega⟩); first | exact T | ((repeat apply Exists.intro); first | exact T | exact ⟨T, rfl⟩)
            case measure => simp [intOf]; omega
    · have hd1 : decide (i < L.length) = false := by rw [decide_eq_false_iff_not]; exact hlt
      go_wp2
      obtain rfl : C = [] := List.eq_nil_of_length_eq_zero (by omega)
      have hso : SortOf QuestM.id L A := ⟨by simpa using HPM.out, HS.out⟩
      have hrA : Rec wr 86 questC 5 v5 A := by rw [HVE.out]; simpa using HR.out
      have hkA : Keep (fun b => v5.ownBlock = some b) s5 wr := by rw [HVE.out]; exact HK.out
      exact HQ.out _ _ A ⟨rfl, rfl, rfl⟩ hso hrA hkA

set_option maxHeartbeats 16000000 in
theorem sortPart6 {s6 : World} {d : Nat} {v1 v2 v3 v4 v5 v6 : Value} {L : List (ShopM × Value)} (hb : s6.heap[d]? = some (.cells #[v1, v2, v3, v4, v5, v6] 50 (0, 0))) (h1 : Rec s6 88 shopC 3 v6 L) (hnl : L.length ≤ 1000000) (hsl : ∀ p ∈ L, ∃ a n c, p.2 = Value.slice a n c) {a : Act} (ha : Fr d a) {Q : Exit → Act → World → Prop}
    (hQ : ∀ a' w' M, Fr d a' → SortOf (fun p : ShopM × Value => ShopM.room p.1) L M → Rec w' 88 shopC 3 v6 M → Keep (fun b => v6.ownBlock = some b) s6 w' → Q .normal a' w') : (seqTail 5 (Tryz.f23.body.getD .skip)).wp Tryz.prog Q a s6 := by
  obtain ⟨u, rfl⟩ := ha.arr
  have HQ := Lib.hid hQ
  have HBK := Lib.hid hb
  have HSL := Lib.hid hsl
  clear ha hQ hb hsl
  simp only [Tryz.f23, Option.getD_some, seqTail]
  obtain ⟨va, vc, hve, hc1, hc2⟩ := h1.slice
  rw [hve] at h1
  unfold maxLen at hc2
  have HVE := Lib.hid hve
  have p1 : s6.cell? ⟨d, 5, none⟩ = some (.slice va L.length vc) := by rw [← hve]; exact (cell_of_row s6 d 5 _ _ _ HBK.out).trans rfl
  have HND : Hid (∀ b, (Value.slice va L.length vc).ownBlock = some b → d ≠ b) := Lib.hid (fun b hb e => by subst e; obtain ⟨cs, f, e⟩ := h1.type hb; exact ty_ne HBK.out e (by decide) rfl)
  have HP : Hid (∀ w9, Keep (fun b => (Value.slice va L.length vc).ownBlock = some b) s6 w9 → w9.cell? ⟨d, 5, none⟩ = some (.slice va L.length vc)) := Lib.hid (fun w9 k => (k.cell (World.block_lt_of_cell? _ _ p1) (fun hf => HND.out d hf rfl) _).trans p1)
  have H1 := Lib.hid h1
  clear h1 hve p1
  go_wp2
  go_loopw [22, 23, 24, 25] (fun iv _ _ _ wr => SoO (fun p : ShopM × Value => ShopM.room p.1) 88 shopC 3 (.slice va L.length vc) L s6 iv wr) (fun iv _ _ _ _ => L.length - (intOf iv).toNat)
  case atStart => exact ⟨[], L, rfl, List.Perm.refl _, List.Pairwise.nil, H1.out, Keep.refl _ _⟩
  case round =>
    obtain ⟨A, C, rfl, hp, hs, hr, hk⟩ := hrel.ex
    have HPM := Lib.hid hp; have HS := Lib.hid hs; have HR := Lib.hid hr; have HK := Lib.hid hk
    have q0 := HP.out wr hk
    have hlen := hp.length_eq
    rw [List.length_append] at hlen
    clear hp hs hr hk hrel
    obtain ⟨i, hi⟩ : ∃ i, i = A.length := ⟨_, rfl⟩
    rw [← hi] at hlen ⊢
    by_cases hlt : i < L.length
    · have hd1 : decide (i < L.length) = true := by simpa using hlt
      obtain ⟨x0, C0, rfl⟩ : ∃ x C', C = x :: C' := by
        cases C with
        | nil => simp at hlen; omega
        | cons x C' => exact ⟨x, C', rfl⟩
      obtain ⟨g, off, rfl, _⟩ := HR.out.some (i := i) (x := x0) (by rw [hi]; exact mid_get)
      have HI := Lib.hid hi
      clear hi
      go_wp2
      go_loopw [23, 24, 25] (fun kv _ _ wq => SoI (fun p : ShopM × Value => ShopM.room p.1) 88 shopC 3 (.slice (some ⟨g, off, none⟩) L.length vc) L i s6 kv wq) (fun kv _ _ _ => (intOf kv).toNat)
      case atStart => exact ⟨A, x0, [], C0, by rw [HI.out], by rw [HI.out]; rfl, HPM.out, by simpa using HS.out, by simp, HR.out, HK.out⟩
      case round =>
        obtain ⟨A2, x, B2, C2, rfl, hab, hp, hs, hB, hr, hk⟩ := hrel.ex
        have HPM2 := Lib.hid hp; have HS2 := Lib.hid hs; have HB2 := Lib.hid hB; have HR2 := Lib.hid hr; have HKQ := Lib.hid hk; have HAB := Lib.hid hab
        have r0 := HP.out wr hk
        clear hp hs hB hr hk hrel hab q0
        have HEX : Hid (∀ (w9 : World) (_ : Keep (fun _ => False) wr w9) (_ : A2 = [] ∨ ∃ A' y, A2 = A' ++ [y] ∧ (fun p : ShopM × Value => ShopM.room p.1) y ≤ (fun p : ShopM × Value => ShopM.room p.1) x), SoO (fun p : ShopM × Value => ShopM.room p.1) 88 shopC 3 (.slice (some ⟨g, off, none⟩) L.length vc) L s6 (.int .i64 ((i + 1 : Nat) : Int)) w9) := Lib.hid (fun w9 k9 hA =>
          ⟨A2 ++ x :: B2, C2, by rw [List.length_append, List.length_cons, ← HAB.out]; rfl, by simpa using HPM2.out, so_done HS2.out HB2.out hA, by simpa using HR2.out.keep k9 (fun _ _ h => h), HKQ.out.trans k9 (fun _ h => h.elim)⟩)
        rcases List.eq_nil_or_concat A2 with hA | ⟨A', y, hA⟩
        · subst hA
          go_wp2
          go_quiet (fail)
          go_wp2
          go_roundw
          case rel => have T := HEX.out (wr.drewN nq) (keep_drewN wr nq) (Or.inl (by simp)); first | exact T | ((repeat apply Exists.intro); first | exact T | exact ⟨T, rfl⟩)
          case measure => simp [intOf]; omega
        · have hA' : A2 = A' ++ [y] := by simpa using hA
          subst hA'
          obtain ⟨m, hm⟩ : ∃ m, m = A'.length := ⟨_, rfl⟩
          have HMM := Lib.hid hm
          obtain ⟨j, hj⟩ : ∃ j, j = m + 1 := ⟨_, rfl⟩
          have hal : (A' ++ [y]).length = j := by rw [hj, hm]; simp
          have hml : j < L.length := by have h0 := HPM2.out.length_eq; rw [List.length_append, hal, List.length_cons] at h0; omega
          have HALL : Hid ((A' ++ [y]) ++ x :: (B2 ++ C2) = A' ++ y :: (x :: (B2 ++ C2))) := Lib.hid (by simp)
          obtain ⟨xa, xn, xc, hx2⟩ := HSL.out x (HPM2.out.mem_iff.1 (by simp))
          obtain ⟨ya, yn, yc, hy2⟩ := HSL.out y (HPM2.out.mem_iff.1 (by simp))
          have HCX : Hid (shopC x = [.int .i64 x.1.room, .int .i64 x.1.till, .slice xa xn xc]) := Lib.hid (by unfold shopC; rw [hx2])
          have HCY : Hid (shopC y = [.int .i64 y.1.room, .int .i64 y.1.till, .slice ya yn yc]) := Lib.hid (by unfold shopC; rw [hy2])
          clear hx2 hy2
          have hry := HR2.out.range shopC_len m y (by rw [HALL.out, hm]; exact mid_get)
          have hrx := HR2.out.range shopC_len j x (by rw [← hal]; exact mid_get)
          have cy : wr.cell? ⟨g, off + m * 3, none⟩ = some (.int .i64 y.1.room) := hry 0 _ rfl
          have cx : wr.cell? ⟨g, off + j * 3, none⟩ = some (.int .i64 x.1.room) := hrx 0 _ rfl
          have HRY := Lib.hid hry; have HRX := Lib.hid hrx
          rw [hal]
          have hw1 : IntKind.i64.wrap ((j : Int) - 1) = (j : Int) - 1 := IntWalk.i64_in _ (by omega)
          have hw2 : (0 : Int) ≤ (j : Int) - 1 := by omega
          have hw3 : (1 : Int) ≤ (j : Int) := by omega
          have hw4 : (j : Int) - 1 < (L.length : Int) := by omega
          have hw5 : ((j : Int) - 1).toNat = m := by omega
          have hd0 : decide (0 < j) = true := by rw [decide_eq_true_eq]; omega
          have HJ := Lib.hid hj
          have HAL := Lib.hid hal
          clear hm hal hA hry hrx hj
          by_cases hxy : x.1.room < y.1.room
          · have dxy : decide (x.1.room < y.1.room) = true := by simpa using hxy
            go_wp2
            go_quiet (fail)
            go_upto_region 51 with (fail)
            have K1 := Lib.hid (keep_drewN (F := fun _ => False) wr nq)
            generalize wr.drewN nq = W1 at K1 ⊢
            have HRY1 : W1.rangeAt g (off + m * 3) (shopC y) := range_keep HRY.out K1.out (HR2.out.row.lt rfl) (fun h => h)
            have HRX1 : W1.rangeAt g (off + j * 3) (shopC x) := range_keep HRX.out K1.out (HR2.out.row.lt rfl) (fun h => h)
            have c1 : W1.cell? ⟨d, 5, none⟩ = some (.slice (some ⟨g, off, none⟩) L.length vc) := (K1.out.cell (World.block_lt_of_cell? _ _ r0) (fun h => h) _).trans r0
            have qy0 : W1.cell? ⟨g, off + m * 3, none⟩ = some (.int .i64 y.1.room) := HRY1 0 _ (by rw [HCY.out]; rfl)
            have qy1 : W1.cell? ⟨g, off + m * 3 + 1, none⟩ = some (.int .i64 y.1.till) := HRY1 1 _ (by rw [HCY.out]; rfl)
            have qy2 : W1.cell? ⟨g, off + m * 3 + 2, none⟩ = some (.slice ya yn yc) := HRY1 2 _ (by rw [HCY.out]; rfl)
            have qx0 : W1.cell? ⟨g, off + j * 3, none⟩ = some (.int .i64 x.1.room) := HRX1 0 _ (by rw [HCX.out]; rfl)
            have qx1 : W1.cell? ⟨g, off + j * 3 + 1, none⟩ = some (.int .i64 x.1.till) := HRX1 1 _ (by rw [HCX.out]; rfl)
            have qx2 : W1.cell? ⟨g, off + j * 3 + 2, none⟩ = some (.slice xa xn xc) := HRX1 2 _ (by rw [HCX.out]; rfl)
            have hz : ∀ w : World, (zeroValue 88).run Tryz.prog w = .ok (.agg #[.int .i64 0, .int .i64 0, .slice none 0 0]) w := fun w => by kernel_rfl
            clear r0 cy cx HRY1 HRX1
            have hgl : g < W1.heap.size := Nat.lt_of_lt_of_le (HR2.out.row.lt rfl) K1.out.size
            have hdl : d < W1.heap.size := World.block_lt_of_cell? _ _ c1
            go_cut [24, 25] from 356 to 409 (fun pa pb wx => SwR (shopC x) (shopC y) 88 g W1 pa pb wx)
            case first =>
              go_region_held3 (fun w' => w'.cell? ⟨d, 5, none⟩ = some (.slice (some ⟨g, off, none⟩) L.length vc) ∧ w'.cell? ⟨g, off + m * 3, none⟩ = some (.int .i64 y.1.room) ∧ w'.cell? ⟨g, off + m * 3 + 1, none⟩ = some (.int .i64 y.1.till) ∧ w'.cell? ⟨g, off + m * 3 + 2, none⟩ = some (.slice ya yn yc) ∧ w'.cell? ⟨g, off + j * 3, none⟩ = some (.int .i64 x.1.room) ∧ w'.cell? ⟨g, off + j * 3 + 1, none⟩ = some (.int .i64 x.1.till) ∧ w'.cell? ⟨g, off + j * 3 + 2, none⟩ = some (.slice xa xn xc)) (go_keep) (first | fail)
              all_goals go_wp2_with fail
              all_goals go_meet
              · exact ⟨_, _, rfl, rfl, by rw [HCY.out]; exact new_first W1 _ _, by rw [HCX.out]; exact new_second W1 _ _, (((Keep.refl _ W1).alloc _).alloc _).drew, by omega, by omega⟩
              · exact ⟨_, _, rfl, rfl, by rw [HCY.out]; exact new_second W1 _ _, by rw [HCX.out]; exact new_first W1 _ _, (((Keep.refl _ W1).alloc _).alloc _).drew, by omega, by omega⟩
            case rest =>
              obtain ⟨p4, p5, rfl, rfl, b4, b5, K2, h4g, h5g⟩ := hcut.ex
              rename World => W2
              have h4s : p4 < W2.heap.size := lt_of_block b4
              have HB4 := Lib.hid b4; have HB5 := Lib.hid b5; have HK2 := Lib.hid K2; have H4S := Lib.hid h4s
              clear b4 b5 K2 h4s hz hcut qy0 qy1 qy2 qx0 qx1 qx2
              go_wp2
              have hdg : d ≠ g := HND.out g rfl
              have HRA := Lib.hid ((HR2.out.keep K1.out (fun _ _ h => h)).keep HK2.out (fun _ _ h => h))
              have d2 : W2.cell? ⟨d, 5, none⟩ = some (.slice (some ⟨g, off, none⟩) L.length vc) := (HK2.out.cell hdl (fun h => h) _).trans c1
              clear c1
              have HT1 := Lib.hid (HRA.out.there (i := m) (by rw [HALL.out, List.length_append]; simp; have := HMM.out; omega))
              have x0 : W2.cell? ⟨p5, 0, none⟩ = some (.int .i64 x.1.room) := (cell_of_row W2 p5 0 _ _ _ HB5.out).trans (by rw [HCX.out]; rfl)
              have x1 : W2.cell? ⟨p5, 1, none⟩ = some (.int .i64 x.1.till) := (cell_of_row W2 p5 1 _ _ _ HB5.out).trans (by rw [HCX.out]; rfl)
              have x2 : W2.cell? ⟨p5, 2, none⟩ = some (.slice xa xn xc) := (cell_of_row W2 p5 2 _ _ _ HB5.out).trans (by rw [HCX.out]; rfl)
              obtain ⟨u0, e0⟩ := Option.isSome_iff_exists.1 (HT1.out 0 (by omega)).1
              have f0 := (HT1.out 0 (by omega)).2
              obtain ⟨u1, e1⟩ := Option.isSome_iff_exists.1 (HT1.out 1 (by omega)).1
              have f1 := (HT1.out 1 (by omega)).2
              obtain ⟨u2, e2⟩ := Option.isSome_iff_exists.1 (HT1.out 2 (by omega)).1
              have f2 := (HT1.out 2 (by omega)).2
              simp only [Nat.add_zero] at e0 f0
              have HE1 : Hid (W2.setCells g (off + m * 3) (shopC x) = (((W2.setCell ⟨g, off + m * 3, none⟩ (.int .i64 x.1.room)).setCell ⟨g, off + m * 3 + 1, none⟩ (.int .i64 x.1.till)).setCell ⟨g, off + m * 3 + 2, none⟩ (.slice xa xn xc))) := Lib.hid (by rw [HCX.out]; rfl)
              have KS : Keep (fun b => b = g) W2 ((((W2.setCell ⟨g, off + m * 3, none⟩ (.int .i64 x.1.room)).setCell ⟨g, off + m * 3 + 1, none⟩ (.int .i64 x.1.till)).setCell ⟨g, off + m * 3 + 2, none⟩ (.slice xa xn xc))).drew := by rw [← HE1.out]; exact (keep_cells _ _).drew
              have HS1 : Hid ((fun w' : World => w'.cell? ⟨d, 5, none⟩ = some (.slice (some ⟨g, off, none⟩) L.length vc) ∧ w'.cell? ⟨p5, 0, none⟩ = some (.int .i64 x.1.room) ∧ w'.cell? ⟨p5, 1, none⟩ = some (.int .i64 x.1.till) ∧ w'.cell? ⟨p5, 2, none⟩ = some (.slice xa xn xc)) ((((W2.setCell ⟨g, off + m * 3, none⟩ (.int .i64 x.1.room)).setCell ⟨g, off + m * 3 + 1, none⟩ (.int .i64 x.1.till)).setCell ⟨g, off + m * 3 + 2, none⟩ (.slice xa xn xc))).drew) := Lib.hid ⟨(KS.cell (World.block_lt_of_cell? _ _ d2) hdg _).trans d2, (KS.cell (World.block_lt_of_cell? _ _ x0) h5g _).trans x0, (KS.cell (World.block_lt_of_cell? _ _ x1) h5g _).trans x1, (KS.cell (World.block_lt_of_cell? _ _ x2) h5g _).trans x2⟩
              have HKS := Lib.hid KS
              clear KS
              go_region_held3 (fun w' => w'.cell? ⟨d, 5, none⟩ = some (.slice (some ⟨g, off, none⟩) L.length vc) ∧ w'.cell? ⟨p5, 0, none⟩ = some (.int .i64 x.1.room) ∧ w'.cell? ⟨p5, 1, none⟩ = some (.int .i64 x.1.till) ∧ w'.cell? ⟨p5, 2, none⟩ = some (.slice xa xn xc)) (first | (go_keep; done) | exact HS1.out) (first | fail)
              clear HS1 x0 e0 f0 x1 e1 f1 x2 e2 f2
              clear u0 u1 u2
              generalize hW3 : ((((W2.setCell ⟨g, off + m * 3, none⟩ (.int .i64 x.1.room)).setCell ⟨g, off + m * 3 + 1, none⟩ (.int .i64 x.1.till)).setCell ⟨g, off + m * 3 + 2, none⟩ (.slice xa xn xc))).drew = W3
              have hW4 : W3 = (W2.setCells g (off + m * 3) (shopC x)).drew := by rw [HE1.out]; exact hW3.symm
              have HKW3 : Hid (Keep (fun b => b = g) W2 W3) := Lib.hid (by rw [← hW3]; exact HKS.out)
              have HRB : Hid (Rec W3 88 shopC 3 (.slice (some ⟨g, off, none⟩) L.length vc) ((A' ++ [x]) ++ x :: (B2 ++ C2))) := Lib.hid (by
                rw [hW4]
                have h0 := HRA.out
                rw [HALL.out] at h0
                have h1 := h0.put shopC_len x
                rw [← HMM.out] at h1
                have h2 : (A' ++ [x]) ++ x :: (B2 ++ C2) = A' ++ x :: (x :: (B2 ++ C2)) := by simp
                rw [h2]
                exact Row.drew h1)
              have d3 : W3.cell? ⟨d, 5, none⟩ = some (.slice (some ⟨g, off, none⟩) L.length vc) := (HKW3.out.cell (World.block_lt_of_cell? _ _ d2) hdg _).trans d2
              have HB6 : Hid (W3.heap[p4]? = some (.cells (shopC y).toArray 88 (0, 0))) := Lib.hid ((HKW3.out.block p4 H4S.out h4g).trans HB4.out)
              clear hW3 hW4 HE1 HKS HT1 d2 HB4 HB5
              go_wp2
              have HT2 := Lib.hid (HRB.out.there (i := j) (by rw [List.length_append, List.length_append, List.length_cons]; simp; have := HMM.out; have := HJ.out; omega))
              have x0 : W3.cell? ⟨p4, 0, none⟩ = some (.int .i64 y.1.room) := (cell_of_row W3 p4 0 _ _ _ HB6.out).trans (by rw [HCY.out]; rfl)
              have x1 : W3.cell? ⟨p4, 1, none⟩ = some (.int .i64 y.1.till) := (cell_of_row W3 p4 1 _ _ _ HB6.out).trans (by rw [HCY.out]; rfl)
              have x2 : W3.cell? ⟨p4, 2, none⟩ = some (.slice ya yn yc) := (cell_of_row W3 p4 2 _ _ _ HB6.out).trans (by rw [HCY.out]; rfl)
              obtain ⟨u0, e0⟩ := Option.isSome_iff_exists.1 (HT2.out 0 (by omega)).1
              have f0 := (HT2.out 0 (by omega)).2
              obtain ⟨u1, e1⟩ := Option.isSome_iff_exists.1 (HT2.out 1 (by omega)).1
              have f1 := (HT2.out 1 (by omega)).2
              obtain ⟨u2, e2⟩ := Option.isSome_iff_exists.1 (HT2.out 2 (by omega)).1
              have f2 := (HT2.out 2 (by omega)).2
              simp only [Nat.add_zero] at e0 f0
              have HE1 : Hid (W3.setCells g (off + j * 3) (shopC y) = (((W3.setCell ⟨g, off + j * 3, none⟩ (.int .i64 y.1.room)).setCell ⟨g, off + j * 3 + 1, none⟩ (.int .i64 y.1.till)).setCell ⟨g, off + j * 3 + 2, none⟩ (.slice ya yn yc))) := Lib.hid (by rw [HCY.out]; rfl)
              have KS : Keep (fun b => b = g) W3 ((((W3.setCell ⟨g, off + j * 3, none⟩ (.int .i64 y.1.room)).setCell ⟨g, off + j * 3 + 1, none⟩ (.int .i64 y.1.till)).setCell ⟨g, off + j * 3 + 2, none⟩ (.slice ya yn yc))).drew := by rw [← HE1.out]; exact (keep_cells _ _).drew
              have HS1 : Hid ((fun w' : World => w'.cell? ⟨d, 5, none⟩ = some (.slice (some ⟨g, off, none⟩) L.length vc) ∧ w'.cell? ⟨p4, 0, none⟩ = some (.int .i64 y.1.room) ∧ w'.cell? ⟨p4, 1, none⟩ = some (.int .i64 y.1.till) ∧ w'.cell? ⟨p4, 2, none⟩ = some (.slice ya yn yc)) ((((W3.setCell ⟨g, off + j * 3, none⟩ (.int .i64 y.1.room)).setCell ⟨g, off + j * 3 + 1, none⟩ (.int .i64 y.1.till)).setCell ⟨g, off + j * 3 + 2, none⟩ (.slice ya yn yc))).drew) := Lib.hid ⟨(KS.cell (World.block_lt_of_cell? _ _ d3) hdg _).trans d3, (KS.cell (World.block_lt_of_cell? _ _ x0) h4g _).trans x0, (KS.cell (World.block_lt_of_cell? _ _ x1) h4g _).trans x1, (KS.cell (World.block_lt_of_cell? _ _ x2) h4g _).trans x2⟩
              have HKS := Lib.hid KS
              clear KS
              go_region_held3 (fun w' => w'.cell? ⟨d, 5, none⟩ = some (.slice (some ⟨g, off, none⟩) L.length vc) ∧ w'.cell? ⟨p4, 0, none⟩ = some (.int .i64 y.1.room) ∧ w'.cell? ⟨p4, 1, none⟩ = some (.int .i64 y.1.till) ∧ w'.cell? ⟨p4, 2, none⟩ = some (.slice ya yn yc)) (first | (go_keep; done) | exact HS1.out) (first | fail)
              clear HS1 x0 e0 f0 x1 e1 f1 x2 e2 f2
              clear u0 u1 u2
              generalize hW3 : ((((W3.setCell ⟨g, off + j * 3, none⟩ (.int .i64 y.1.room)).setCell ⟨g, off + j * 3 + 1, none⟩ (.int .i64 y.1.till)).setCell ⟨g, off + j * 3 + 2, none⟩ (.slice ya yn yc))).drew = W4
              have hW4 : W4 = (W3.setCells g (off + j * 3) (shopC y)).drew := by rw [HE1.out]; exact hW3.symm
              have HKW4 : Hid (Keep (fun b => b = g) W3 W4) := Lib.hid (by rw [← hW3]; exact HKS.out)
              have HRC : Hid (Rec W4 88 shopC 3 (.slice (some ⟨g, off, none⟩) L.length vc) (A' ++ x :: (y :: B2 ++ C2))) := Lib.hid (by
                rw [hW4]
                have h1 := HRB.out.put shopC_len y
                rw [show (A' ++ [x]).length = j by rw [List.length_append, ← HMM.out, HJ.out]; rfl] at h1
                have h2 : A' ++ x :: (y :: B2 ++ C2) = (A' ++ [x]) ++ y :: (B2 ++ C2) := by simp
                rw [h2]
                exact Row.drew h1)
              clear hW3 hW4 HE1 HKS HT2 d3
              go_wp2
              go_roundw
              case rel =>
                obtain ⟨t1, t2⟩ := so_step (key := (fun p : ShopM × Value => ShopM.room p.1)) HS2.out HB2.out hxy
                have T : SoI (fun p : ShopM × Value => ShopM.room p.1) 88 shopC 3 (.slice (some ⟨g, off, none⟩) L.length vc) L i s6 (.int .i64 ((j : Int) - 1)) W4 := ⟨A', x, y :: B2, C2, by congr 1; have h1 := HMM.out; have h2 := HJ.out; omega, by have := HAB.out; have := HAL.out; have := HJ.out; have := HMM.out; simp at this ⊢; omega, so_swap HPM2.out, t1, t2, HRC.out,
                  (((HKQ.out.trans K1.out (fun _ h => h.elim)).trans HK2.out (fun _ h => h.elim)).trans HKW3.out (fun b hb => .inl (by rw [hb]; rfl))).trans HKW4.out (fun b hb => .inl (by rw [hb]; rfl))⟩
                first | exact T | ((repeat apply Exists.intro); first | exact T | exact ⟨T, rfl⟩)
              case measure => simp [intOf]; omega
          · have dxy : decide (x.1.room < y.1.room) = false := by simpa using hxy
            go_wp2
            go_quiet (fail)
            go_wp2
            go_roundw
            case rel => have T := HEX.out (wr.drewN nq) (keep_drewN wr nq) (Or.inr ⟨A', y, rfl, by show y.1.room ≤ x.1.room; omega⟩); first | exact T | ((repeat apply Exists.intro); first | exact T | exact ⟨T, rfl⟩)
            case measure => simp [intOf]; omega
    · have hd1 : decide (i < L.length) = false := by rw [decide_eq_false_iff_not]; exact hlt
      go_wp2
      obtain rfl : C = [] := List.eq_nil_of_length_eq_zero (by omega)
      have hso : SortOf (fun p : ShopM × Value => ShopM.room p.1) L A := ⟨by simpa using HPM.out, HS.out⟩
      have hrA : Rec wr 88 shopC 3 v6 A := by rw [HVE.out]; simpa using HR.out
      have hkA : Keep (fun b => v6.ownBlock = some b) s6 wr := by rw [HVE.out]; exact HK.out
      exact HQ.out _ _ A ⟨rfl, rfl, rfl⟩ hso hrA hkA

theorem sort_body : Tryz.f23.body = some (.seq (seqPart 0 (Tryz.f23.body.getD .skip)) (.seq (seqPart 1 (Tryz.f23.body.getD .skip)) (.seq (seqPart 2 (Tryz.f23.body.getD .skip)) (.seq (seqPart 3 (Tryz.f23.body.getD .skip)) (.seq (seqPart 4 (Tryz.f23.body.getD .skip)) (seqTail 5 (Tryz.f23.body.getD .skip))))))) := by kernel_rfl
set_option maxHeartbeats 4000000 in
theorem refSort_of {c1 c2 c3 c4 c5 c6 : Code} (hbody : Tryz.f23.body = some (.seq c1 (.seq c2 (.seq c3 (.seq c4 (.seq c5 c6))))))
    (S1 : ∀ {s1 : World} {d : Nat} {v1 v2 v3 v4 v5 v6 : Value} {L : List (RoomM)} (_ : s1.heap[d]? = some (.cells #[v1, v2, v3, v4, v5, v6] 50 (0, 0))) (_ : Rec s1 53 roomC 10 v1 L) (_ : L.length ≤ 1000000) {a : Act} (_ : Fr d a) {Q : Exit → Act → World → Prop} (_ : ∀ a' w' M, Fr d a' → SortOf RoomM.id L M → Rec w' 53 roomC 10 v1 M → Keep (fun b => v1.ownBlock = some b) s1 w' → Q .normal a' w'), c1.wp Tryz.prog Q a s1)
    (S2 : ∀ {s2 : World} {d : Nat} {v1 v2 v3 v4 v5 v6 : Value} {L : List (ProtoM)} (_ : s2.heap[d]? = some (.cells #[v1, v2, v3, v4, v5, v6] 50 (0, 0))) (_ : Rec s2 78 protoC 5 v2 L) (_ : L.length ≤ 1000000) {a : Act} (_ : Fr d a) {Q : Exit → Act → World → Prop} (_ : ∀ a' w' M, Fr d a' → SortOf ProtoM.id L M → Rec w' 78 protoC 5 v2 M → Keep (fun b => v2.ownBlock = some b) s2 w' → Q .normal a' w'), c2.wp Tryz.prog Q a s2)
    (S3 : ∀ {s3 : World} {d : Nat} {v1 v2 v3 v4 v5 v6 : Value} {L : List (MobPM)} (_ : s3.heap[d]? = some (.cells #[v1, v2, v3, v4, v5, v6] 50 (0, 0))) (_ : Rec s3 80 mobpC 7 v3 L) (_ : L.length ≤ 1000000) {a : Act} (_ : Fr d a) {Q : Exit → Act → World → Prop} (_ : ∀ a' w' M, Fr d a' → SortOf MobPM.id L M → Rec w' 80 mobpC 7 v3 M → Keep (fun b => v3.ownBlock = some b) s3 w' → Q .normal a' w'), c3.wp Tryz.prog Q a s3)
    (S4 : ∀ {s4 : World} {d : Nat} {v1 v2 v3 v4 v5 v6 : Value} {L : List (RecM × Value)} (_ : s4.heap[d]? = some (.cells #[v1, v2, v3, v4, v5, v6] 50 (0, 0))) (_ : Rec s4 83 recC 2 v4 L) (_ : L.length ≤ 1000000) (_ : ∀ p ∈ L, ∃ a n c, p.2 = Value.slice a n c) {a : Act} (_ : Fr d a) {Q : Exit → Act → World → Prop} (_ : ∀ a' w' M, Fr d a' → SortOf (fun p : RecM × Value => RecM.out p.1) L M → Rec w' 83 recC 2 v4 M → Keep (fun b => v4.ownBlock = some b) s4 w' → Q .normal a' w'), c4.wp Tryz.prog Q a s4)
    (S5 : ∀ {s5 : World} {d : Nat} {v1 v2 v3 v4 v5 v6 : Value} {L : List (QuestM)} (_ : s5.heap[d]? = some (.cells #[v1, v2, v3, v4, v5, v6] 50 (0, 0))) (_ : Rec s5 86 questC 5 v5 L) (_ : L.length ≤ 1000000) {a : Act} (_ : Fr d a) {Q : Exit → Act → World → Prop} (_ : ∀ a' w' M, Fr d a' → SortOf QuestM.id L M → Rec w' 86 questC 5 v5 M → Keep (fun b => v5.ownBlock = some b) s5 w' → Q .normal a' w'), c5.wp Tryz.prog Q a s5)
    (S6 : ∀ {s6 : World} {d : Nat} {v1 v2 v3 v4 v5 v6 : Value} {L : List (ShopM × Value)} (_ : s6.heap[d]? = some (.cells #[v1, v2, v3, v4, v5, v6] 50 (0, 0))) (_ : Rec s6 88 shopC 3 v6 L) (_ : L.length ≤ 1000000) (_ : ∀ p ∈ L, ∃ a n c, p.2 = Value.slice a n c) {a : Act} (_ : Fr d a) {Q : Exit → Act → World → Prop} (_ : ∀ a' w' M, Fr d a' → SortOf (fun p : ShopM × Value => ShopM.room p.1) L M → Rec w' 88 shopC 3 v6 M → Keep (fun b => v6.ownBlock = some b) s6 w' → Q .normal a' w'), c6.wp Tryz.prog Q a s6)
    {w : World} {B : Nat → Prop} {d : Nat} {D : DbM} {v1 v2 v3 v4 v5 v6 : Value} {rr : List (RecM × Value)} {ss : List (ShopM × Value)} (h : DbV B w d D v1 v2 v3 v4 v5 v6 rr ss)
    (n1 : D.rooms.length ≤ 1000000) (n2 : D.protos.length ≤ 1000000) (n3 : D.mobs.length ≤ 1000000) (n4 : D.recs.length ≤ 1000000) (n5 : D.quests.length ≤ 1000000) (n6 : D.shops.length ≤ 1000000) :
    Calls Tryz.prog 23 #[.pointer (some ⟨d, 0, none⟩)] w fun e w' => e = .returned (.tuple #[]) ∧ ∃ M r2 s2, SortDb D M ∧ DbV B w' d M v1 v2 v3 v4 v5 v6 r2 s2 ∧ Keep B w w' := by
  obtain ⟨L1, L2, L3, L4, L5, L6⟩ := D
  simp only at n1 n2 n3 n4 n5 n6
  have hrr : rr.length ≤ 1000000 := by have h0 : rr.map Prod.fst = L4 := h.fr; have := congrArg List.length h0; rw [List.length_map] at this; omega
  have hss : ss.length ≤ 1000000 := by have h0 : ss.map Prod.fst = L6 := h.fs; have := congrArg List.length h0; rw [List.length_map] at this; omega
  refine calls_of_wp Tryz.func23 hbody ?_
  have f0 : Fr d { tmps := #[.pointer (some ⟨d, 0, none⟩)] ++ Array.replicate (Tryz.f23.ntmps - (#[.pointer (some ⟨d, 0, none⟩)] : Array Value).size) undef, defers := [] } := ⟨rfl, (size_front _ _).trans (by rw [Tryz.ntmps23]; rfl), getD_front _ _⟩
  refine wp_seq_k fun K1 q1 => S1 h.blk h.l1 n1 f0 (fun a1 w1 M1 f1 o1 r1 k1 => q1 _ _ ?_)
  have h1 := h.sort1 r1 k1
  refine wp_seq_k fun K2 q2 => S2 h1.blk h1.l2 n2 f1 (fun a2 w2 M2 f2 o2 r2 k2 => q2 _ _ ?_)
  have h2 := h1.sort2 r2 k2
  refine wp_seq_k fun K3 q3 => S3 h2.blk h2.l3 n3 f2 (fun a3 w3 M3 f3 o3 r3 k3 => q3 _ _ ?_)
  have h3 := h2.sort3 r3 k3
  refine wp_seq_k fun K4 q4 => S4 h3.blk h3.l4 hrr (fun p hp => by obtain ⟨_, a, c, e, _⟩ := (h3.ir p hp).1; exact ⟨a, _, c, e⟩) f3 (fun a4 w4 M4 f4 o4 r4 k4 => q4 _ _ ?_)
  have h4 := h3.sort4 r4 o4.1 k4
  refine wp_seq_k fun K5 q5 => S5 h4.blk h4.l5 n5 f4 (fun a5 w5 M5 f5 o5 r5 k5 => q5 _ _ ?_)
  have h5 := h4.sort5 r5 k5
  refine S6 h5.blk h5.l6 hss (fun p hp => by obtain ⟨_, a, c, e, _⟩ := (h5.is p hp).1; exact ⟨a, _, c, e⟩) f5 (fun a6 w6 M6 f6 o6 r6 k6 => ?_)
  have h6 := h5.sort6 r6 o6.1 k6
  have p4 : SortOf RecM.out L4 (M4.map Prod.fst) := by
    rw [show L4 = rr.map Prod.fst from h.fr.symm]
    exact ⟨o4.1.map _, List.pairwise_map.2 o4.2⟩
  have p6 : SortOf ShopM.room L6 (M6.map Prod.fst) := by
    rw [show L6 = ss.map Prod.fst from h.fs.symm]
    exact ⟨o6.1.map _, List.pairwise_map.2 o6.2⟩
  have k0 : Keep B w w6 := (((((k1.mono (fun b _ hb => h.o1 b hb)).trans k2 (fun b hb => .inl (h.o2 b hb))).trans k3 (fun b hb => .inl (h.o3 b hb))).trans k4 (fun b hb => .inl (h.o4 b hb))).trans k5 (fun b hb => .inl (h.o5 b hb))).trans k6 (fun b hb => .inl (h.o6 b hb))
  refine bodyPost_end (results_none rfl _ _ _) f6.df ?_
  exact ⟨rfl, _, _, _, ⟨o1, o2, o3, p4, o5, p6⟩, h6, k0⟩
theorem refSort_any {w : World} {B : Nat → Prop} {d : Nat} {D : DbM} {v1 v2 v3 v4 v5 v6 : Value} {rr : List (RecM × Value)} {ss : List (ShopM × Value)} (h : DbV B w d D v1 v2 v3 v4 v5 v6 rr ss)
    (n1 : D.rooms.length ≤ 1000000) (n2 : D.protos.length ≤ 1000000) (n3 : D.mobs.length ≤ 1000000) (n4 : D.recs.length ≤ 1000000) (n5 : D.quests.length ≤ 1000000) (n6 : D.shops.length ≤ 1000000) :
    Calls Tryz.prog 23 #[.pointer (some ⟨d, 0, none⟩)] w fun e w' => e = .returned (.tuple #[]) ∧ ∃ M r2 s2, SortDb D M ∧ DbV B w' d M v1 v2 v3 v4 v5 v6 r2 s2 ∧ Keep B w w' :=
  refSort_of sort_body @sortPart1 @sortPart2 @sortPart3 @sortPart4 @sortPart5 @sortPart6 h n1 n2 n3 n4 n5 n6
end Go.Proofs.YtcodbomgodkcmaaGreatDoor.Wd
